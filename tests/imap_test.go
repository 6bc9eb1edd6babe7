package tests

import (
	"fmt"
	"math"
	"math/rand"
	"slices"
	"strconv"
	"strings"
	"testing"

	"loop.example/g00268/impl"
)

// lettered is a mutation that adds the mail of an entry of each Id.
func lettered(name string, ids ...string) impl.Mutation {
	m := impl.Mutation{Kind: impl.MuAdd, Box: name}
	for _, e := range entriesOf(ids...) {
		m.Items = append(m.Items, impl.Item{Key: e.Id, Text: mailText(e, name)})
	}
	return m
}

// newsMutations make a box of five mails, one of two, of which one went, and an empty one.
func newsMutations() []impl.Mutation {
	return []impl.Mutation{
		madeBox("news"), lettered("news", "a", "b", "c", "d", "e"), madeBox("more"), lettered("more", "a", "b"), flagged("more", 1, impl.MoSet, impl.FlDeleted), expunged("more"), madeBox("none_yet"), flagged("news", 3, impl.MoSet, impl.FlSeen|impl.FlFlagged),
	}
}

// newsEngine has room for so many bytes behind what it has.
func newsEngine(behind int) impl.Engine {
	return engineOf(len(logOf(0, newsMutations()...).Data)+behind, newsMutations()...)
}

func selectedOf(box string, readOnly bool, view ...int) impl.Imap {
	return impl.Imap{State: impl.ImSelected, Box: box, ReadOnly: readOnly, View: view}
}

func TestNewSessions(t *testing.T) {
	if impl.ImClosed != 0 || impl.ImNew != 1 || impl.ImOpen != 2 || impl.ImSelected != 3 {
		t.Error("the states of sessions")
	}
	s := impl.NewImap()
	if !sameAnswer(s, impl.Imap{State: 1}) || !impl.ImapOK(s) {
		t.Errorf("NewImap = %s", told(s))
	}
}

// rightSessions is ones of every state.
func rightSessions() []impl.Imap {
	list := []impl.Imap{{}, {State: 1}, {State: 2}, {State: 1, View: []int{}}}
	for _, readOnly := range []bool{false, true} {
		for _, box := range []string{"news", "_", "Z9", strings.Repeat("n", 40)} {
			list = append(list, selectedOf(box, readOnly), selectedOf(box, readOnly, []int{}...), selectedOf(box, readOnly, 1), selectedOf(box, readOnly, 1000), selectedOf(box, readOnly, 1, 1000), selectedOf(box, readOnly, 2, 3, 7), selectedOf(box, readOnly, upTo(1, 1000)...))
		}
	}
	return list
}

func wrongSessions() []impl.Imap {
	list := []impl.Imap{}
	for _, state := range []int{-1, 4, 5, 256, 1 << 32, 1<<32 + 3, math.MaxInt, math.MinInt} {
		list = append(list, impl.Imap{State: state}, impl.Imap{State: state, Box: "news", View: []int{1}})
	}
	for state := range 3 {
		list = append(list, impl.Imap{State: state, Box: "news"}, impl.Imap{State: state, ReadOnly: true}, impl.Imap{State: state, View: []int{1}}, impl.Imap{State: state, Box: "news", ReadOnly: true, View: []int{1, 2}}, impl.Imap{State: state, Box: "9"}, impl.Imap{State: state, View: []int{0}})
	}
	for _, box := range []string{"", "9", "a b", "\u00e4", "news\r\n", strings.Repeat("n", 41), longText} {
		list = append(list, selectedOf(box, false), selectedOf(box, true, 1, 2))
	}
	for _, view := range wrongViews() {
		list = append(list, selectedOf("news", false, view...), selectedOf("news", true, view...))
	}
	return list
}

// wrongViews is ones that do not rise, of 0 and less, and beyond MaxUid.
func wrongViews() [][]int {
	return [][]int{
		{0}, {-1}, {1001}, {math.MaxInt}, {math.MinInt}, {1, 1}, {2, 1}, {0, 1}, {1, 2, 2}, {1, 3, 2}, {1, 2, 0}, {1, 2, -1}, {5, 1, 6}, {1, 1000, 1001}, {1, 2, 1 << 32}, {999, 1000, 1000}, {math.MinInt, 1}, {1, math.MaxInt}, {1<<32 + 1, 2}, upTo(0, 1000), upTo(1, 1001), append(upTo(1, 1000), 1), slices.Repeat([]int{1}, 4096),
	}
}

func TestRightAndWrongSessions(t *testing.T) {
	for _, s := range rightSessions() {
		if !impl.ImapOK(s) || !rightSession(s) {
			t.Errorf("%s is not right", told(s))
		}
	}
	e := newsEngine(1000)
	for _, s := range wrongSessions() {
		if impl.ImapOK(s) || rightSession(s) {
			t.Errorf("%s is right", told(s))
		}
		for _, text := range []string{"a noop", "a logout", "a", "", "a select news", strings.Repeat("x", 4001)} {
			checkStepCode(t, e, s, text, impl.ErrBad)
		}
		checkStepCode(t, e, s, longText, impl.ErrLong)
	}
	// Each view of three numbers.
	for a := -1; a < 5; a++ {
		for b := -1; b < 5; b++ {
			for c := -1; c < 5; c++ {
				s := selectedOf("news", false, a, b, c)
				if want := a > 0 && b > a && c > b; impl.ImapOK(s) != want || rightSession(s) != want {
					t.Errorf("ImapOK of %s is not %t", told(s), want)
				}
			}
		}
	}
}

// subsets is all lists of some of the numbers from one to n, rising.
func subsets(n int) [][]int {
	list := [][]int{nil}
	for uid := 1; uid <= n; uid++ {
		for _, x := range list {
			list = append(list, append(slices.Clone(x), uid))
		}
	}
	return list
}

// redone is what lines of updates, done one by one to what was seen, leave: what only a number tells of is a 0.
func redone(t *testing.T, seen []int, said string) []int {
	t.Helper()
	seen = slices.Clone(seen)
	for line := range strings.SplitSeq(strings.TrimSuffix(said, "\r\n"), "\r\n") {
		found := updatePattern.FindStringSubmatch(line)
		if found == nil {
			continue
		}
		n, _ := strconv.Atoi(found[1])
		switch {
		case found[2] == "EXPUNGE" && (n < 1 || n > len(seen)):
			t.Fatalf("%q of %d", line, seen)
		case found[2] == "EXPUNGE":
			seen = slices.Delete(seen, n-1, n)
		case n <= len(seen):
			t.Fatalf("%q, but %d were seen", line, len(seen))
		default:
			seen = append(seen, make([]int, n-len(seen))...)
		}
	}
	return seen
}

// checkRedone asks that what was told leaves just the uids that a box has, those that only a number told of at their places.
func checkRedone(t *testing.T, before []int, said string, box []int) {
	t.Helper()
	left := redone(t, before, said)
	if len(left) != len(box) {
		t.Fatalf("%d told %q saw %d, but the box has %d", before, said, left, box)
	}
	for i, uid := range left {
		if uid != 0 && uid != box[i] || uid == 0 && slices.Contains(before, box[i]) {
			t.Fatalf("%d told %q saw %d, but the box has %d", before, said, left, box)
		}
	}
}

func TestUpdatesOfEveryView(t *testing.T) {
	for _, uids := range subsets(6) {
		b := boxOf("news", 1, 6, uids...)
		for _, view := range subsets(7) {
			said, left, code := checkUpdates(t, b, view)
			if code != impl.OK || !rightView(left) {
				t.Fatalf("ViewUpdates of %d, %d = %q, %d, %d", uids, view, said, left, code)
			}
			// All that were seen, if they are in the box still, are; no other one is in their place.
			checkRedone(t, view, said, left)
			last := slices.Max(append([]int{0}, view...))
			knew := !slices.ContainsFunc(uids, func(uid int) bool { return uid <= last && !slices.Contains(view, uid) })
			if knew && !slices.Equal(left, uids) {
				t.Errorf("ViewUpdates of %d, %d leaves %d", uids, view, left)
			}
			if again, same, code := checkUpdates(t, b, left); again != "" || !slices.Equal(same, left) || code != impl.OK {
				t.Errorf("ViewUpdates of %d, %d a second time = %q, %d, %d", uids, left, again, same, code)
			}
		}
	}
}

func TestUpdatesOfManyMails(t *testing.T) {
	for _, x := range []struct {
		count      int
		uids, view []int
		said       string
	}{
		{0, nil, nil, ""}, {5, nil, nil, ""}, {60, upTo(31, 60), nil, "* 30 EXISTS\r\n"}, {60, upTo(31, 60), upTo(31, 59), "* 30 EXISTS\r\n"}, {60, upTo(31, 60), upTo(31, 60), ""},
		{3, []int{3}, []int{1, 2}, "* 1 EXPUNGE\r\n* 1 EXPUNGE\r\n* 1 EXISTS\r\n"}, {3, []int{1}, []int{1, 2, 3}, "* 2 EXPUNGE\r\n* 2 EXPUNGE\r\n"}, {3, []int{2}, []int{1, 2, 3}, "* 1 EXPUNGE\r\n* 2 EXPUNGE\r\n"}, {4, []int{1, 3}, []int{1, 2, 3, 4}, "* 2 EXPUNGE\r\n* 3 EXPUNGE\r\n"}, {2, nil, []int{1, 2}, "* 1 EXPUNGE\r\n* 1 EXPUNGE\r\n"},
		// Uids that the box has not given yet go as well; one between two that are known does not join, one above the last that is left does.
		{2, []int{1, 2}, []int{1, 2, 1000}, "* 3 EXPUNGE\r\n"}, {5, []int{1, 3, 5}, []int{1, 5}, ""}, {5, []int{1, 3}, []int{1, 5}, "* 2 EXPUNGE\r\n* 2 EXISTS\r\n"}, {5, []int{2, 4}, []int{5}, "* 1 EXPUNGE\r\n* 2 EXISTS\r\n"},
		{60, upTo(31, 60), upTo(1, 1000), strings.Repeat("* 1 EXPUNGE\r\n", 30) + strings.Repeat("* 31 EXPUNGE\r\n", 940)},
	} {
		if said, _, code := checkUpdates(t, boxOf("news", 1, x.count, x.uids...), x.view); said != x.said || code != impl.OK {
			t.Errorf("ViewUpdates of %d, %d = %.200q, %d, not %.200q", x.uids, x.view, said, code, x.said)
		}
	}
}

func TestWrongUpdates(t *testing.T) {
	right := plainBox("news", 7)
	wrong := []impl.Box{{}, {Name: "news", Valid: 1}, {Name: "9", Valid: 1, Next: 1}, boxOf("news", 0, 5, 1), boxOf("news", 1, 61, 1), boxOf("news", 1, 5, 2, 1), boxOf("news", 1, 5, 6), boxOf("news", 1, 60, upTo(1, 31)...), changedBox(func(b *impl.Box) { b.Keys[0] = b.Keys[1] }), changedBox(func(b *impl.Box) { b.Mails[0].Flags = 32 }), changedBox(func(b *impl.Box) { b.Mails[0].Text = strings.Repeat("x", 4001) })}
	for _, view := range append(wrongViews(), make([]int, 4096)) {
		if said, left, code := checkUpdates(t, right, view); said != "" || len(left) > 0 || code != impl.ErrBad {
			t.Errorf("ViewUpdates of %s = %q, %d, %d", told(view), said, left, code)
		}
		checkUpdates(t, wrong[0], view)
	}
	for _, b := range wrong {
		for _, view := range [][]int{nil, {1}, {1, 2, 3}} {
			if said, left, code := checkUpdates(t, b, view); said != "" || len(left) > 0 || code != impl.ErrBad {
				t.Errorf("ViewUpdates of %s = %q, %d, %d", told(b), said, left, code)
			}
		}
	}
	for _, b := range append(wrong, right) {
		for _, view := range [][]int{upTo(1, 4097), make([]int, 4097), make([]int, 100000)} {
			if said, left, code := checkUpdates(t, b, view); said != "" || len(left) > 0 || code != impl.ErrLong {
				t.Errorf("ViewUpdates of a view of %d = %q, %d, %d", len(view), said, left, code)
			}
		}
	}
}

// allItems is every item, in letters of either size.
func allItems() []string {
	return []string{"FLAGS", "UID", "RFC822.SIZE", "BODY[]", "BODY[HEADER]", "BODY[TEXT]", "BODY.PEEK[]", "BODY.PEEK[HEADER]", "BODY.PEEK[TEXT]", "flags", "Uid", "rfc822.Size", "body[]", "Body[Header]", "boDY[text]", "body.peek[]", "body.Peek[header]", "BODY.PEEK[tExT]"}
}

func TestFetchedItems(t *testing.T) {
	m := impl.Stored{Uid: 7, Flags: 20, Text: "X: y\r\n\r\nbody\r\n"}
	for _, x := range []struct {
		items, said string
		seen        bool
	}{
		{"FLAGS", `FLAGS (\Flagged \Draft)`, false}, {"flags", `FLAGS (\Flagged \Draft)`, false}, {"uid", "UID 7", false}, {"rfc822.size", "RFC822.SIZE 14", false},
		{"body[]", "BODY[] {14}\r\nX: y\r\n\r\nbody\r\n", true}, {"body[header]", "BODY[HEADER] {8}\r\nX: y\r\n\r\n", true}, {"Body[Text]", "BODY[TEXT] {6}\r\nbody\r\n", true},
		{"body.peek[]", "BODY[] {14}\r\nX: y\r\n\r\nbody\r\n", false}, {"BODY.peek[HEADER]", "BODY[HEADER] {8}\r\nX: y\r\n\r\n", false}, {"BODY.PEEK[text]", "BODY[TEXT] {6}\r\nbody\r\n", false},
		{"flags body.peek[text] rfc822.size body.peek[text] flags", "FLAGS (\\Flagged \\Draft) BODY[TEXT] {6}\r\nbody\r\n RFC822.SIZE 14 BODY[TEXT] {6}\r\nbody\r\n FLAGS (\\Flagged \\Draft)", false},
		{"body.peek[] body[text]", "BODY[] {14}\r\nX: y\r\n\r\nbody\r\n BODY[TEXT] {6}\r\nbody\r\n", true}, {"body[text] body.peek[text]", "BODY[TEXT] {6}\r\nbody\r\n BODY[TEXT] {6}\r\nbody\r\n", true},
		{"rfc822.size uid flags uid", `RFC822.SIZE 14 UID 7 FLAGS (\Flagged \Draft) UID 7`, false},
		{"", "", false},
	} {
		items := strings.Fields(x.items)
		for _, withUid := range []bool{false, true} {
			want := "* 3 FETCH (" + x.said + ")\r\n"
			if withUid && !strings.Contains(x.items, "uid") {
				want = strings.ReplaceAll("* 3 FETCH (UID 7 "+x.said+")\r\n", " )", ")")
			}
			if said, seen, code := checkFetch(t, m, 3, items, withUid); said != want || seen != x.seen || code != impl.OK {
				t.Errorf("FetchText of %q, %t = %q, %t, %d, not %q", x.items, withUid, said, seen, code, want)
			}
		}
	}
	// All pairs, with all flags, of mails of each sort.
	for i, text := range []string{"\r\n", "\r\n\r\n", "X: y\r\n\r\n", "X: y\r\n z\r\n\r\n{3}\r\n)\r\n", mailText(plainEntry, "news"), mailOfBytes(4000)} {
		for _, one := range allItems() {
			for k, other := range append(allItems(), "") {
				m := impl.Stored{Uid: 1 + 37*k%1000, Flags: (k + 11*i) % 32, Text: text}
				checkFetchCode(t, m, 1+k, strings.Fields(one+" "+other), impl.OK)
			}
		}
	}
	for flags := range 32 {
		checkFetchCode(t, impl.Stored{Uid: 1, Flags: flags, Text: "\r\n"}, 1, []string{"flags", "body[]"}, impl.OK)
	}
}

func TestNoItems(t *testing.T) {
	m := impl.Stored{Uid: 7, Text: "X: y\r\n\r\nbody\r\n"}
	words := []string{
		"", " ", "FLAG", "FLAGSS", " FLAGS", "FLAGS ", "(FLAGS)", "FLAGS UID", "\"FLAGS\"", "flag\u017f", "UI", "UID7", "UID 7", "RFC822", "RFC822SIZE", "RFC822 SIZE", "RFC822.SIZ", "RFC822.SIZES", "RFC822.", "SIZE", "BODY", "BODY.PEEK", "BODY.", "BODYPEEK[]", "BODY..PEEK[]", "BODY.PEEK.PEEK[]", "BODY[", "BODY]", "BODY][", "BODY[]]", "BODY[[]", "BODY[]]", "BODY[] ", " BODY[]", "BODY []", "BODY[ ]", "BODY[TEXT", "BODYTEXT]", "BODY[TEXT]]", "BODY[[TEXT]", "BODY[[TEXT]]", "BODY[ TEXT]", "BODY[TEXT ]", "BODY[TEXTS]", "BODY[TEX]", "BODY[HEADERS]", "BODY[HEADE]", "BODY[HEADER.FIELDS]", "BODY[HEADER TEXT]", "BODY[1]", "BODY[0]", "BODY[MIME]", "BODY[x]", "BODY[]<0>", "BODY[TEXT]<0.5>", "BODY[TE\u017dT]", "BODY[]BODY[]", "XBODY[]", "PEEK[]", ".PEEK[]", "BODY(TEXT)", "BODY{TEXT}", "[]", "[TEXT]", "TEXT", "HEADER", "ALL", "FAST", "FULL", "ENVELOPE", "INTERNALDATE", "RFC822.HEADER", "RFC822.TEXT", "BODYSTRUCTURE", "*", "\x00", "\xff", "FLAGS\x00", "BODY[\xff]", "BODY[\r\n]", longText, endlessText,
	}
	for _, word := range words {
		checkFetchCode(t, m, 1, []string{word}, impl.ErrForm)
		checkFetchCode(t, m, 1, []string{"flags", "body[]", word}, impl.ErrForm)
		checkFetchCode(t, m, 1, []string{word, "flags"}, impl.ErrForm)
	}
	for _, item := range allItems()[:9] {
		changed(item, func(x string) { checkFetch(t, m, 1, []string{x}, false) })
	}
}

// A Text that is no mail has no part, not even all of it; all else is told of it.
func TestPartsThatAreNotThere(t *testing.T) {
	for _, text := range []string{"", "a", "text of key 1", "X: y", "X: y\r\n", "X: y\n\nbody\n", "X y\r\n\r\n", "X: \u00e4\r\n\r\n", "X: y\r\n\r\nbody", "X: y\r\n\r\n" + strings.Repeat("x", 999) + "\r\n", "X: y\r\n\r\n\x00\r\n", " X: y\r\n\r\n", manyFields(41) + "\r\n", strings.Repeat("x", 4000)} {
		m := impl.Stored{Uid: 1, Text: text}
		for _, item := range allItems() {
			code := impl.OK
			if strings.Contains(item, "[") {
				code = impl.ErrForm
			}
			checkFetchCode(t, m, 1, []string{item}, code)
			checkFetchCode(t, m, 1, []string{"flags", item, "uid"}, code)
		}
		if said, seen, code := checkFetch(t, m, 1, []string{"rfc822.size"}, false); said != fmt.Sprintf("* 1 FETCH (RFC822.SIZE %d)\r\n", len(text)) || seen || code != impl.OK {
			t.Errorf("of %.60q = %q, %t, %d", text, said, seen, code)
		}
	}
}

func TestBoundsOfFetches(t *testing.T) {
	right := impl.Stored{Uid: 7, Flags: 1, Text: mailOfBytes(4000)}
	for n, code := range map[int]int{0: impl.OK, 1: impl.OK, 29: impl.OK, 30: impl.OK, 31: impl.ErrBad, 32: impl.ErrBad, 4096: impl.ErrBad, 4097: impl.ErrLong, 100000: impl.ErrLong} {
		for _, item := range []string{"flags", "body[]", "BODY.PEEK[TEXT]"} {
			checkFetchCode(t, right, 1, slices.Repeat([]string{item}, n), code)
		}
		if n > 30 {
			// The number of items is told ahead of a wrong item, and of a wrong number; as all that is wrong with a mail.
			for _, item := range []string{"none", "", longText} {
				for _, seq := range []int{0, 1, math.MaxInt} {
					for _, m := range []impl.Stored{right, {}, {Uid: 1, Text: "none"}} {
						checkFetchCode(t, m, seq, slices.Repeat([]string{item}, n), code)
					}
				}
			}
		}
	}
	change := func(change func(m *impl.Stored), code int) {
		t.Helper()
		m := right
		change(&m)
		checkFetchCode(t, m, 1, []string{"flags", "body[]"}, code)
		checkFetchCode(t, m, 1, nil, code)
		if code != impl.OK {
			for _, seq := range []int{0, -1, math.MaxInt} {
				checkFetchCode(t, m, seq, []string{"flags"}, code)
			}
			checkFetchCode(t, m, 1, []string{"none"}, code)
		}
	}
	for _, uid := range []int{1, 2, 60, 999, 1000} {
		change(func(m *impl.Stored) { m.Uid = uid }, impl.OK)
	}
	for _, uid := range []int{0, -1, 1001, 1 << 32, 1<<32 + 1, math.MaxInt, math.MinInt} {
		change(func(m *impl.Stored) { m.Uid = uid }, impl.ErrBad)
	}
	for _, flags := range []int{0, 1, 30, 31} {
		change(func(m *impl.Stored) { m.Flags = flags }, impl.OK)
	}
	for _, flags := range []int{-1, -31, 32, 33, 63, 1 << 32, math.MaxInt, math.MinInt} {
		change(func(m *impl.Stored) { m.Flags = flags }, impl.ErrBad)
	}
	for _, size := range []int{3000, 3999, 4000} {
		change(func(m *impl.Stored) { m.Text = mailOfBytes(size) }, impl.OK)
	}
	for _, text := range []string{mailOfBytes(4001), mailOfBytes(8000), fullText, longText, endlessText} {
		change(func(m *impl.Stored) { m.Text = text }, impl.ErrBad)
	}
	for _, seq := range []int{1, 2, 1000, 1001, 4294967294, 4294967295} {
		checkFetchCode(t, right, seq, []string{"flags"}, impl.OK)
	}
	for _, seq := range []int{0, -1, 4294967296, 4294967297, math.MaxInt, math.MinInt} {
		for _, items := range [][]string{nil, {"flags"}, {"none"}, {"body[x]"}} {
			checkFetchCode(t, right, seq, items, impl.ErrRange)
		}
		checkFetchCode(t, impl.Stored{Uid: 1, Text: "no mail"}, seq, []string{"body[]"}, impl.ErrRange)
	}
}

// othersDo is what happens to an engine between the commands of a session: mails come, are flagged, go.
func othersDo(source *rand.Rand, e impl.Engine) impl.Engine {
	box := oneOf(source, "news", "news", "more")
	m := flagged(box, 1+source.Intn(30), 1+source.Intn(3), source.Intn(32))
	switch source.Intn(5) {
	case 0:
		m = lettered(box, fmt.Sprint("new ", source.Intn(1000000)))
	case 1:
		next, _, _ := impl.Poll(e, box, feedOfIds(fmt.Sprint("p ", source.Intn(40)), fmt.Sprint("p ", source.Intn(40))))
		return next
	case 2:
		m = expunged(box)
	case 3:
		m.Mode, m.Flags = impl.MoAdd, impl.FlDeleted
	}
	next, _ := impl.Commit(e, m)
	return next
}

// Whatever happens between them, what a session is told, done line by line to what it saw, is what the box has.
func TestToldUpdatesAreTheBox(t *testing.T) {
	updates := map[string]int{}
	for seed := range int64(30) {
		source := rand.New(rand.NewSource(seed))
		c := newClient(t, engineOf(impl.MaxRoom, newsMutations()...), "s "+oneOf(source, "select", "examine", "select")+" news")
		saw := uidsOf(c.e.Boxes[0])
		for range 60 {
			for range source.Intn(4) {
				c.e = othersDo(source, c.e)
			}
			had := len(saw)
			switch source.Intn(6) {
			case 0:
				// What is done to a mail of a number is done to the one that was seen there.
				n := 1 + source.Intn(had+1)
				said := c.ask(fmt.Sprintf("a fetch %d uid", n))
				there := n <= had && slices.Contains(uidsOf(c.e.Boxes[0]), saw[n-1])
				if there != strings.HasPrefix(said, fmt.Sprintf("* %d FETCH (UID ", n)) || there && !strings.HasPrefix(said, fmt.Sprintf("* %d FETCH (UID %d)", n, saw[n-1])) {
					t.Fatalf("of the number %d of %d is told %q", n, saw, said)
				}
				continue
			case 1:
				c.ask("b " + oneOf(source, "store 1:* +flags (\\Deleted)", "uid store 1:7 -flags (\\Deleted)", "search all", "fetch 1:* body[]", "status news (messages)", "none", "capability"))
				continue
			}
			line := oneOf(source, "c noop", "c list x *", "c expunge", "c NOOP")
			said := c.ask(line)
			if strings.Contains(said, "c NO") {
				continue
			}
			box := uidsOf(c.e.Boxes[0])
			checkRedone(t, saw, said, box)
			updates[line[2:3]+fmt.Sprint(strings.Contains(said, "EXPUNGE\r\n* "), strings.Contains(said, "EXISTS"))]++
			// The uids of those that came are asked for.
			saw = redone(t, saw, said)
			for i := range saw {
				saw[i] = 0
			}
			for n, line := range strings.Split(c.ask("d fetch 1:* uid"), "\r\n") {
				if n < len(saw) {
					fmt.Sscanf(line, "* %d FETCH (UID %d)", new(int), &saw[n])
				}
			}
			if !slices.Equal(saw, box) || !slices.Equal(c.s.View, box) {
				t.Fatalf("the session sees %d, the box has %d", saw, box)
			}
		}
	}
	for _, kind := range []string{"ntrue true", "ltrue true", "etrue true", "nfalse true", "nfalse false"} {
		if updates[kind] < 5 {
			t.Errorf("updates are %v", updates)
		}
	}
}

// What commands say one by one they say as one run; the engine is right behind each of them, and no uid has another mail than it had.
func TestMadeSessions(t *testing.T) {
	ends := map[string]int{}
	for seed := range int64(60) {
		source := rand.New(rand.NewSource(seed))
		h := history{map[string]string{}, map[string]int{}, map[string]bool{}}
		begin := newsEngine([]int{0, 100, 1000, 20000}[seed%4])
		e, s, all := begin, impl.NewImap(), ""
		h.look(t, nil, begin.Boxes)
		lines := []string{"a login me feed", "b " + oneOf(source, "select", "examine", "select") + " news"}
		for len(lines) < 60 {
			lines = append(lines, madeCommandLine(source))
		}
		for _, line := range lines {
			if s.State == impl.ImClosed {
				break
			}
			next, session, said := checkSpoken(t, e, s, line)
			h.look(t, e.Boxes, next.Boxes)
			for _, m := range next.Boxes[0].Mails {
				if was, code := impl.StoredAt(begin.Boxes[0], m.Uid); code != impl.OK || was.Text != m.Text {
					t.Fatalf("behind %q the uid %d has another mail", line, m.Uid)
				}
			}
			words := strings.Fields(said[strings.LastIndex(strings.TrimSuffix(said, "\r\n"), "\r\n")+1:])
			ends[words[1]+" "+words[len(words)-1]]++
			e, s, all = next, session, all+said
		}
		got, said, code := checkRun(t, begin, lines)
		if said != all || !sameAnswer(got, e) || code != impl.OK {
			t.Errorf("the run of the seed %d says other things than its commands", seed)
		}
	}
	for _, end := range []string{"OK FETCH", "NO FETCH", "BAD FETCH", "OK STORE", "NO STORE", "BAD STORE", "OK SEARCH", "BAD SEARCH", "BAD UID", "OK EXPUNGE", "NO EXPUNGE", "OK CLOSE", "NO SELECT", "OK EXAMINE", "NO STATUS", "BAD STATUS", "OK LIST", "OK LOGOUT", "BAD NOOP"} {
		if ends[end] < 2 {
			t.Errorf("only %d commands end with %s: %v", ends[end], end, ends)
		}
	}
}

// Several sessions over one engine: each is told what leads from what it saw to what the box has.
func TestSessionsBesideEachOther(t *testing.T) {
	for seed := range int64(10) {
		source := rand.New(rand.NewSource(seed))
		e := engineOf(impl.MaxRoom, newsMutations()...)
		clients := []*client{newClient(t, e, "s select news"), newClient(t, e, "s select news"), newClient(t, e, "s examine news")}
		for range 60 {
			c := clients[source.Intn(len(clients))]
			c.e = e
			before := c.s.View
			line := oneOf(source, "a noop", "a expunge", "a store 1,3 +flags.silent (\\Deleted)", "a uid store 1:* -flags (\\Deleted)", "a fetch 1:* (uid flags)", "a list x *")
			said := c.ask(line)
			if !strings.Contains(said, "FETCH (") && !strings.Contains(said, "a NO") && !strings.Contains(said, "a OK STORE") && !strings.Contains(said, "a OK FETCH") {
				checkRedone(t, before, said, uidsOf(c.e.Boxes[0]))
			}
			e = c.e
			if source.Intn(3) == 0 {
				e = othersDo(source, e)
			}
		}
	}
}

func TestBoundsOfSteps(t *testing.T) {
	e := newsEngine(1000)
	for _, s := range someSays() {
		for _, size := range []int{0, 1, 3999, 4000} {
			checkStepCode(t, e, s, strings.Repeat("x", size), impl.OK)
		}
		for _, text := range []string{strings.Repeat("x", 4001), strings.Repeat("x", 5000), "a logout" + strings.Repeat(" ", 4000), fullText, strings.Repeat("\r\n", 3000)} {
			checkStepCode(t, e, s, text, impl.ErrRange)
		}
		for _, text := range []string{longText, endlessText, "a noop " + fullText} {
			checkStepCode(t, e, s, text, impl.ErrLong)
		}
	}
	// Just so many bytes are a command.
	c := newClient(t, e)
	word := strings.Repeat("w", 4000-len("a list x "))
	c.say("a list x "+word, "a OK LIST")
	c.say("a list "+word+" *", "* LIST () \"/\" news", "* LIST () \"/\" more", "* LIST () \"/\" none_yet", "a OK LIST")
	checkStepCode(t, e, c.s, "a list x "+word+"w", impl.ErrRange)
}

func TestSessionsWithoutTheirBox(t *testing.T) {
	for _, e := range []impl.Engine{newsEngine(1000), {}, engineOf(1000, madeBox("new"))} {
		for _, name := range []string{"gone", "News", "n", strings.Repeat("n", 40)} {
			for _, readOnly := range []bool{false, true} {
				for _, text := range []string{"a noop", "a logout", "a select news", "", strings.Repeat("x", 4000), strings.Repeat("x", 4001), fullText} {
					checkStepCode(t, e, selectedOf(name, readOnly, 1, 2), text, impl.ErrBad)
					checkStepCode(t, e, selectedOf(name, readOnly), text, impl.ErrBad)
				}
				checkStepCode(t, e, selectedOf(name, readOnly), longText, impl.ErrLong)
			}
		}
	}
}

func TestSessionsOfWrongEngines(t *testing.T) {
	for _, e := range wrongEngines() {
		for _, s := range []impl.Imap{{}, {State: 1}, {State: 2}, selectedOf("news", false, 1), selectedOf("none", true), {State: 4}} {
			for _, text := range []string{"a noop", "", strings.Repeat("x", 4001)} {
				checkStepCode(t, e, s, text, impl.ErrBad)
			}
			checkStepCode(t, e, s, longText, impl.ErrLong)
		}
		for _, lines := range [][]string{nil, {"a noop"}, make([]string, 60), make([]string, 61), make([]string, 4096), {strings.Repeat("x", 4001)}, {longText}} {
			checkRunCode(t, e, lines, impl.ErrBad)
		}
		checkRunCode(t, e, make([]string, 4097), impl.ErrLong)
	}
}

func TestRuns(t *testing.T) {
	e := newsEngine(1000)
	for _, x := range []struct {
		lines []string
		said  string
	}{
		{nil, ""}, {[]string{}, ""}, {[]string{"a noop"}, "a OK NOOP\r\n"}, {[]string{"", "a"}, "* BAD\r\n* BAD\r\n"}, {[]string{"a logout", "b noop", "c"}, "* BYE\r\na OK LOGOUT\r\n"}, {[]string{"a select news"}, "a BAD SELECT\r\n"},
		{[]string{"a login me feed", "b select none", "c select more", "d uid fetch * (flags)", "e close", "f logout", "g login me feed"}, "a OK LOGIN\r\nb NO SELECT\r\n* FLAGS (\\Seen \\Answered \\Flagged \\Deleted \\Draft)\r\n* 1 EXISTS\r\n* 0 RECENT\r\n* OK [UIDVALIDITY 2]\r\n* OK [UIDNEXT 3]\r\nc OK [READ-WRITE] SELECT\r\n* 1 FETCH (UID 2 FLAGS ())\r\nd OK FETCH\r\ne OK CLOSE\r\n* BYE\r\nf OK LOGOUT\r\n"},
	} {
		if got, said, code := checkRun(t, e, x.lines); said != x.said || code != impl.OK || !sameAnswer(got, e) {
			t.Errorf("ImapRun of %q = %q, %d, not %q", x.lines, said, code, x.said)
		}
	}
	// What a run did stays.
	got, said, code := checkRun(t, e, []string{"a login me feed", "b select news", "c store 1 +flags.silent (\\Deleted)", "d close"})
	if !strings.HasSuffix(said, "\r\nc OK STORE\r\nd OK CLOSE\r\n") || code != impl.OK || len(got.Boxes[0].Mails) != 4 || !impl.EngineOK(got) {
		t.Errorf("a run says %q, %d, and leaves %s", said, code, told(got))
	}
}

func TestBoundsOfRuns(t *testing.T) {
	e := newsEngine(1000)
	for n, code := range map[int]int{0: impl.OK, 1: impl.OK, 59: impl.OK, 60: impl.OK, 61: impl.ErrMany, 62: impl.ErrMany, 4096: impl.ErrMany, 4097: impl.ErrLong, 100000: impl.ErrLong} {
		for _, line := range []string{"a noop", "", "a logout"} {
			checkRunCode(t, e, slices.Repeat([]string{line}, n), code)
		}
		// So many lines are told ahead of one that is too long.
		if n > 60 {
			checkRunCode(t, e, slices.Repeat([]string{strings.Repeat("x", 4001)}, n), code)
		}
	}
	full := strings.Repeat("x", 4000)
	checkRunCode(t, e, slices.Repeat([]string{full}, 60), impl.OK)
	for _, long := range []string{full + "x", fullText, longText, endlessText} {
		for _, lines := range [][]string{{long}, {"a noop", long}, {long, "a noop"}, {"a logout", long}, {"a logout", "b noop", long, full}, append(make([]string, 59), long)} {
			checkRunCode(t, e, lines, impl.ErrRange)
		}
	}
}
