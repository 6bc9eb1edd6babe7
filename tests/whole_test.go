package tests

import (
	"fmt"
	"math/rand"
	"slices"
	"strings"
	"testing"

	"loop.example/g00268/impl"
)

// Promise 19, asked of all chapters together: what is in feeds comes out of both servers.

// A theorem is a world with a box, and what was ever polled into this, as a feed's reader would have it.
type theorem struct {
	gate
	box  string
	ever []impl.Entry
	gone []bool
}

func newTheorem(t *testing.T, room int, boxes ...string) *theorem {
	t.Helper()
	w, code := impl.NewWorld(room)
	if code != impl.OK {
		t.Fatalf("NewWorld of %d has the code %d", room, code)
	}
	h := &theorem{gate: gate{t, w}, box: boxes[0]}
	for _, box := range boxes {
		h.ask(impl.Event{Kind: impl.GwMake, Box: box}, impl.Told{Conn: -1})
	}
	return h
}

// branch is another theorem that goes on from the same world.
func (h *theorem) branch() *theorem {
	other := *h
	other.ever, other.gone = slices.Clone(h.ever), slices.Clone(h.gone)
	return &other
}

// fresh is the entries whose Ids were never there, nor ahead in the list.
func (h *theorem) fresh(entries []impl.Entry) []impl.Entry {
	ids := map[string]int{}
	for _, e := range h.ever {
		ids[e.Id]++
	}
	var list []impl.Entry
	for _, e := range entries {
		if ids[e.Id]++; ids[e.Id] == 1 {
			list = append(list, e)
		}
	}
	return list
}

func (h *theorem) add(entries []impl.Entry) {
	h.ever = append(h.ever, entries...)
	h.gone = append(h.gone, make([]bool, len(entries))...)
}

// poll asks for just what was never there, and for nothing when the same is polled again, in either form.
func (h *theorem) poll(atom bool, entries ...impl.Entry) {
	h.t.Helper()
	fresh := h.fresh(entries)
	h.ask(impl.Event{Kind: impl.GwPoll, Box: h.box, Data: feedText(impl.Feed{Atom: atom, Title: "t", Entries: entries})}, impl.Told{Conn: -1, Text: fmt.Sprint(len(fresh))})
	h.add(fresh)
	h.look()
	h.pollNothing(entries...)
}

func (h *theorem) pollNothing(entries ...impl.Entry) {
	h.t.Helper()
	before := h.w
	for _, atom := range []bool{false, true} {
		h.ask(impl.Event{Kind: impl.GwPoll, Box: h.box, Data: feedText(impl.Feed{Atom: atom, Entries: entries})}, impl.Told{Conn: -1, Text: "0"})
		if !sameAnswer(h.w, before) {
			h.t.Errorf("a poll that adds nothing changes the world")
		}
	}
}

// refuse asks that there is no room for a poll, and that nothing of it is done.
func (h *theorem) refuse(code int, entries ...impl.Entry) {
	h.t.Helper()
	before := h.w
	h.ask(impl.Event{Kind: impl.GwPoll, Box: h.box, Data: feedText(impl.Feed{Atom: true, Entries: entries})}, impl.Told{Code: code, Conn: -1})
	if !sameAnswer(h.w, before) {
		h.t.Errorf("a poll of the code %d changes the world", code)
	}
	h.look()
}

// crash is the power that goes while entries are polled: they are there whole, or not at all. It says which.
func (h *theorem) crash(keep int, entries ...impl.Entry) bool {
	h.t.Helper()
	was := len(h.ever)
	sure := h.w.Engine.Log
	fresh := h.fresh(entries)
	whole := 0
	if len(fresh) > 0 {
		m, code := impl.PollMutation(h.w.Engine.Boxes, h.box, feedText(impl.Feed{Entries: entries}))
		record, bytesCode := impl.MutationBytes(m)
		if code != impl.OK || bytesCode != impl.OK {
			h.t.Fatalf("the mutation has the codes %d, %d", code, bytesCode)
		}
		whole = 7 + len(record)
	}
	h.ask(impl.Event{Kind: impl.GwCrash, Keep: keep, Box: h.box, Data: feedText(impl.Feed{Entries: entries})}, impl.Told{Conn: -1})
	done := len(fresh) > 0 && keep >= whole
	if done {
		h.add(fresh)
	}
	if len(h.w.Engine.Log.Data) != len(sure.Data)+map[bool]int{true: whole}[done] || !strings.HasPrefix(h.w.Engine.Log.Data, sure.Data) {
		h.t.Errorf("behind a crash with %d bytes of %d the log has %d, ahead of it %d", keep, whole, len(h.w.Engine.Log.Data), len(sure.Data))
	}
	h.closed(0, 1, 2, 3)
	h.look()
	return len(h.ever) > was
}

func (h *theorem) there() impl.Box {
	h.t.Helper()
	b, code := impl.BoxAt(h.w.Engine.Boxes, h.box)
	if code != impl.OK {
		h.t.Fatalf("the box %q is not there: %d", h.box, code)
	}
	return b
}

// look asks that the box has one mail of each entry that did not go, in order, which says what the entry does, and the key of each that ever was.
func (h *theorem) look() {
	h.t.Helper()
	b := h.there()
	var keys []string
	at := 0
	for i, e := range h.ever {
		keys = append(keys, e.Id)
		if h.gone[i] {
			continue
		}
		if at >= len(b.Mails) || b.Mails[at].Uid != i+1 {
			h.t.Fatalf("the entry %d of %d has no mail: the uids are %d", i, len(h.ever), uidsOf(b))
		}
		text := b.Mails[at].Text
		if back, code := impl.MailEntry(text); back != e || code != impl.OK {
			h.t.Errorf("the mail of %s says %s, %d", told(e), told(back), code)
		}
		if text != mailText(e, h.box) || !impl.MailOK(text) {
			h.t.Errorf("the mail of %s is %.400q", told(e), text)
		}
		at++
	}
	if at != len(b.Mails) || b.Next != len(h.ever)+1 || !slices.Equal(b.Keys, keys) {
		h.t.Errorf("there are %d mails, not %d, Next %d, the keys %.400q, not %.400q", len(b.Mails), at, b.Next, b.Keys, keys)
	}
	if !impl.WorldOK(h.w) {
		h.t.Errorf("the world is not right")
	}
}

// said is what a connection is told of some bytes.
func (h *theorem) said(conn int, data string) string {
	h.t.Helper()
	tell := h.do(impl.Event{Kind: impl.GwBytes, Conn: conn, Data: data})
	if tell.Code != impl.OK {
		h.t.Fatalf("of %q is told %s", data, told(tell))
	}
	return tell.Text
}

// article is the octets of a block behind its first line, its points taken away line by line.
func (h *theorem) article(said, first string) string {
	h.t.Helper()
	begin, block, _ := strings.Cut(said, "\r\n")
	lines, ended := strings.CutSuffix(block, ".\r\n")
	if begin != first || !ended {
		h.t.Fatalf("%.200q begins not with %q, or has no end", said, first)
	}
	octets := ""
	for _, line := range strings.SplitAfter(lines, "\r\n") {
		octets += strings.TrimPrefix(line, ".")
	}
	if back, code := impl.DotUnstuff(block); back != octets || code != impl.OK {
		h.t.Errorf("DotUnstuff of %.200q = %.200q, %d", block, back, code)
	}
	return octets
}

// read asks both servers for each mail: all hand out the octets that the box has.
func (h *theorem) read() {
	h.t.Helper()
	r := h.branch()
	b := h.there()
	for conn := range 4 {
		r.ask(impl.Event{Kind: impl.GwClose, Conn: conn}, impl.Told{Code: map[bool]int{true: impl.ErrState}[r.w.Conns[conn].Kind == 0], Conn: conn})
	}
	r.open(impl.GwImap, 1)
	r.open(impl.GwNntp, 2)
	r.said(1, "a login me feed\r\nb examine "+h.box+"\r\n")
	r.said(2, "group "+h.box+"\r\n")
	for _, item := range []string{"body.peek[]", "body[]"} {
		r.sameOctets("1:*", item, b.Mails)
	}
	r.said(1, "b select "+h.box+"\r\n")
	for i, m := range b.Mails {
		for _, item := range []string{"body.peek[]", "body[]"} {
			for _, line := range []string{fmt.Sprintf("c fetch %d %s", i+1, item), fmt.Sprintf("c uid fetch %d (flags %s)", m.Uid, item)} {
				bodies := bodiesTold(h.t, r.said(1, line+"\r\n"))
				if len(bodies) != 1 || bodies[0] != [2]string{"", m.Text} {
					h.t.Errorf("%q tells %.200q, not %.200q", line, bodies, m.Text)
				}
			}
		}
		id := fmt.Sprintf("%d <%d@%s>", m.Uid, impl.Check32([]byte(b.Keys[m.Uid-1])), h.box)
		for _, line := range []string{fmt.Sprint("article ", m.Uid), "ARTICLE"} {
			if octets := r.article(r.said(2, line+"\r\n"), "220 "+id); octets != m.Text {
				h.t.Errorf("%q tells %.200q, not %.200q", line, octets, m.Text)
			}
		}
		// The header without its empty line, and the text, are the mail.
		head := r.article(r.said(2, "head\r\n"), "221 "+id)
		if octets := head + "\r\n" + r.article(r.said(2, "body\r\n"), "222 "+id); octets != m.Text {
			h.t.Errorf("HEAD and BODY tell %.200q, not %.200q", octets, m.Text)
		}
	}
	for i, gone := range h.gone {
		if gone && r.said(2, fmt.Sprintf("article %d\r\n", i+1)) != "423 no such number\r\n" {
			h.t.Errorf("the mail %d went, and is read", i+1)
		}
	}
	// What was read is seen, and is the mail that it was.
	r.sameOctets("*:1", "body[]", b.Mails)
	for i, m := range r.there().Mails {
		if m.Flags != b.Mails[i].Flags|impl.FlSeen || m.Text != b.Mails[i].Text {
			h.t.Errorf("what was read is %s, ahead of it %s", told(m), told(b.Mails[i]))
		}
	}
	r.look()
}

// sameOctets asks for all bodies at once.
func (h *theorem) sameOctets(set, item string, mails []impl.Stored) {
	h.t.Helper()
	bodies := bodiesTold(h.t, h.said(1, "d fetch "+set+" "+item+"\r\n"))
	if len(bodies) != len(mails) {
		h.t.Fatalf("%d bodies are told of %d mails", len(bodies), len(mails))
	}
	for i, m := range mails {
		if bodies[i] != [2]string{"", m.Text} {
			h.t.Errorf("%s of the mail %d tells %.200q, not %.200q", item, m.Uid, bodies[i], m.Text)
		}
	}
}

// expunge lets mails go, by a session of its own.
func (h *theorem) expunge(uids ...int) {
	h.t.Helper()
	h.ask(impl.Event{Kind: impl.GwImap, Conn: 3}, impl.Told{Conn: 3, Text: "* OK ready\r\n"})
	said := h.said(3, "a login me feed\r\nb select "+h.box+"\r\n")
	for _, uid := range uids {
		said = h.said(3, fmt.Sprintf("c uid store %d +flags (\\Deleted)\r\n", uid))
		h.gone[uid-1] = true
	}
	said = h.said(3, "d expunge\r\ne logout\r\n")
	if strings.Count(said, " EXPUNGE\r\n") != len(uids)+1 || !strings.HasSuffix(said, "d OK EXPUNGE\r\n* BYE\r\ne OK LOGOUT\r\n") {
		h.t.Errorf("of %d mails that go is told %q", len(uids), said)
	}
	h.look()
}

// trickyEntries is entries with texts that need encoded words, folds, escapes and quoted bytes.
func trickyEntries() []impl.Entry {
	return []impl.Entry{
		{Id: "1", Title: "plain", Link: "http://x/1", Author: "me", Date: 1577934245, Content: "one line"},
		{Id: "\u00e4 \u20ac", Title: "caf\u00e9 \U0001f600", Link: "http://x/\u00e4", Author: "J\u00f6rg", Date: 0, Content: "\u00e4\n\u20ac = 3\r\n\U0001f600"},
		{Id: "a & b < c > \"d\" 'e'", Title: "<b>&amp;</b>", Link: "http://x/?a=1&b=2#\"", Author: "<me@x> & \"you\"", Date: 951786123, Content: "<p class=\"x\">&lt; &#10; ]]> <!-- --> &</p>"},
		{Id: strings.Repeat("w ", 99) + "ww", Title: lineBytes(200), Link: strings.Repeat("x", 200), Author: strings.Repeat("ab ", 66) + "ab", Date: impl.MaxStamp, Content: strings.Repeat("long words ", 90)},
		{Id: "=?utf-8?B?w6Q=?=", Title: "=?utf-8?B?w6Q=?= =?utf-8?B?w6Q=?=", Link: "a =?b?= c", Author: "=?", Date: 1, Content: "=?utf-8?B?w6Q=?=\n=3D=\n=\n==0D"},
		{Id: strings.Repeat("\u20ac", 66) + "ab", Title: strings.Repeat("\u00e4 ", 66) + "b", Link: strings.Repeat("\U0001f600", 50), Author: "a" + strings.Repeat("\u00e4", 99), Content: strings.Repeat("\u20ac", 200)},
		{Id: ".", Title: "..", Link: ".", Author: ".", Content: ".\n..\n.a\n\n.\r\n.\r.\n"},
		{Id: "From: x", Title: "Subject: y", Link: ":", Author: "X-Id: z", Content: "X-Id: other\n\nFrom: a\n\n"},
		{Id: "(", Title: "{3}", Link: "\\\"", Author: ")", Content: ")\r\na OK FETCH\n* 1 FETCH (BODY[] {3}\n"},
		{Id: "empty"},
		{Id: "blanks", Title: "t", Content: "  \n \n\n\t\n a \n\t"},
		{Id: "returns", Title: "t", Content: "\r\r\n\r\n\r\n\n\r"},
		{Id: "end", Title: "\x7f \u0080", Content: strings.Repeat("\r\n", 300)},
		{Id: "signs", Title: "\ufffd \u2028 \u00a0", Content: strings.Repeat("=", 500)},
	}
}

// twice is the entries with each of them once more, which says other things, between those that follow.
func twice(entries []impl.Entry) []impl.Entry {
	var list []impl.Entry
	for i, e := range entries {
		list = append(list, e)
		again := entries[i/2]
		again.Title, again.Content, again.Date = "another", "another", 5
		list = append(list, again)
	}
	return list
}

func TestWholeOfOneFeed(t *testing.T) {
	entries := trickyEntries()
	for _, atom := range []bool{false, true} {
		h := newTheorem(t, impl.MaxRoom, "news", "other")
		h.read()
		// One by one, then all of them.
		for _, e := range entries {
			one := newTheorem(t, impl.MaxRoom, "B_9")
			one.poll(atom, e)
			one.read()
			one.poll(!atom, e, entries[0])
			one.read()
		}
		h.poll(atom, entries...)
		h.read()
		h.poll(!atom, twice(entries[:10])...)
		h.pollNothing(twice(entries[4:])...)
		// They come in the feed's order, whatever it is.
		back := slices.Clone(entries)
		slices.Reverse(back)
		other := newTheorem(t, impl.MaxRoom, "news")
		other.poll(atom, back...)
		other.read()
		other.pollNothing(entries...)
		mixed := newTheorem(t, impl.MaxRoom, "x")
		mixed.poll(atom, twice(entries[:5])...)
		mixed.poll(!atom, twice(back[:10])...)
		mixed.read()
		mixed.poll(atom, entries...)
		mixed.read()
	}
}

// What went does not come again, in the feed where it was, and in others.
func TestWholeOfMailsThatWent(t *testing.T) {
	entries := trickyEntries()
	for _, atom := range []bool{false, true} {
		h := newTheorem(t, impl.MaxRoom, "other", "news")
		h.box = "news"
		h.poll(atom, entries[:6]...)
		h.expunge(2, 5)
		h.pollNothing(entries[:6]...)
		h.poll(atom, entries[4:9]...)
		h.read()
		h.expunge(1, 3, 4, 6, 7, 8, 9)
		h.pollNothing(entries[:9]...)
		h.read()
		h.poll(!atom, entries...)
		h.crash(1000)
		h.pollNothing(twice(entries[:10])...)
		h.read()
		// Of the other box none of them was.
		h.box, h.ever, h.gone = "other", nil, nil
		h.poll(atom, entries[2:]...)
		h.read()
	}
}

// crashSteps is every Keep from 0 up to some bytes beyond a whole record, in a longer one not each of the middle.
func crashSteps(h *theorem, entries []impl.Entry, each int) []int {
	m, _ := impl.PollMutation(h.w.Engine.Boxes, h.box, feedText(impl.Feed{Entries: entries}))
	record, _ := impl.MutationBytes(m)
	whole := 7 + len(record)
	var keeps []int
	for keep := 0; keep <= whole+9; keep++ {
		if keep < 20 || keep%each == 0 || keep > whole-9 {
			keeps = append(keeps, keep)
		}
	}
	return append(keeps, -1, whole+1000, 60000, 1<<62, -1<<62)
}

// A crash ahead of all polls, between two and behind them: what was polled is there, what is polled then comes.
func checkWholeOfCrashes(t *testing.T, atom bool, each int, first, second []impl.Entry) {
	t.Helper()
	start := newTheorem(t, impl.MaxRoom, "news")
	started := start.branch()
	started.poll(atom, first...)
	ended := started.branch()
	ended.poll(atom, second...)
	for _, at := range []*theorem{start, started, ended} {
		for _, doomed := range [][]impl.Entry{nil, first, second, {{Id: "doomed"}}} {
			for i, keep := range crashSteps(at, doomed, each) {
				h := at.branch()
				h.open(impl.GwImap, 0)
				h.open(impl.GwNntp, 1)
				h.crash(keep, doomed...)
				h.poll(!atom, first...)
				h.poll(atom, second...)
				h.pollNothing(first...)
				if i%50 == 0 {
					h.read()
					h.crash(keep)
					h.read()
				}
			}
		}
	}
}

// At every Keep of short records, and at many of longer ones.
func TestWholeWithACrashAtEveryKeep(t *testing.T) {
	entries := trickyEntries()
	checkWholeOfCrashes(t, true, 1, entries[:1], []impl.Entry{entries[0], {Id: "\u00e4", Title: "<&>", Content: "=\n."}})
	for _, atom := range []bool{false, true} {
		checkWholeOfCrashes(t, atom, 43, entries[:2], entries[1:3])
		checkWholeOfCrashes(t, atom, 43, twice(entries[4:6]), entries[5:7])
		checkWholeOfCrashes(t, atom, 43, entries[9:10], entries[6:10])
	}
}

// All of the tricky entries in one record: the power may go within each of them.
func TestWholeOfCrashesOfManyEntries(t *testing.T) {
	entries := trickyEntries()
	h := newTheorem(t, impl.MaxRoom, "news")
	h.poll(true, entries[3])
	counts := map[bool]int{}
	for _, keep := range crashSteps(h, entries, 37) {
		c := h.branch()
		counts[c.crash(keep, entries...)]++
		c.poll(keep%2 == 0, entries...)
		c.pollNothing(twice(entries[4:])...)
	}
	if counts[false] < 100 || counts[true] < 10 {
		t.Errorf("of the crashes %d had all, %d nothing", counts[true], counts[false])
	}
	h.poll(false, entries...)
	h.read()
}

// As long as there is room: where there is none nothing is done, and what is there stays.
func TestWholeWithoutRoom(t *testing.T) {
	plain := func(from, to int) []impl.Entry {
		var list []impl.Entry
		for _, id := range keysOf(to)[from:] {
			list = append(list, impl.Entry{Id: id, Title: "t " + id})
		}
		return list
	}
	h := newTheorem(t, impl.MaxRoom, "news")
	h.poll(true, plain(0, 20)...)
	h.refuse(impl.ErrFull, plain(15, 31)...)
	h.poll(false, plain(15, 30)...)
	h.refuse(impl.ErrFull, plain(30, 31)...)
	h.read()
	h.expunge(upTo(1, 30)...)
	h.pollNothing(plain(0, 20)...)
	h.poll(true, plain(25, 45)...)
	h.refuse(impl.ErrUid, plain(42, 61)...)
	h.poll(true, plain(44, 60)...)
	h.refuse(impl.ErrUid, plain(59, 61)...)
	h.expunge(31, 33, 60)
	h.refuse(impl.ErrUid, plain(59, 61)...)
	h.pollNothing(plain(40, 60)...)
	h.read()
	// A log of every room takes a record, or does not; a mail that is too long is none.
	entries := trickyEntries()[:3]
	m, _ := impl.PollMutation([]impl.Box{{Name: "news", Valid: 1, Next: 1}}, "news", feedText(impl.Feed{Entries: entries}))
	record, _ := impl.MutationBytes(m)
	begin := len(newTheorem(t, impl.MaxRoom, "news").w.Engine.Log.Data)
	for room := begin; room < begin+7+len(record)+3; room++ {
		if room > begin+40 && room < begin+len(record)-40 && room%50 > 0 {
			continue
		}
		h := newTheorem(t, room, "news")
		if room < begin+7+len(record) {
			h.refuse(impl.ErrFull, entries...)
			h.branch().crash(60000)
			h.look()
			continue
		}
		h.poll(true, entries...)
		h.read2()
	}
	h = newTheorem(t, impl.MaxRoom, "news")
	h.refuse(impl.ErrRange, entries[0], entryOfMail("long", impl.MaxLetter+1), entries[1])
	h.poll(true, entries[0], entryOfMail("long", impl.MaxLetter), entries[1])
	h.read()
}

// read2 reads where the log has no room for a flag: nothing is seen.
func (h *theorem) read2() {
	h.t.Helper()
	b := h.there()
	h.open(impl.GwImap, 1)
	h.said(1, "a login me feed\r\nb examine "+h.box+"\r\n")
	for _, item := range []string{"body.peek[]", "body[]"} {
		h.sameOctets("1:*", item, b.Mails)
	}
}

// Made feeds, crashes, and mails that go, one behind the other.
func TestWholeOfMadeFeeds(t *testing.T) {
	for seed := range int64(15) {
		source := rand.New(rand.NewSource(seed))
		h := newTheorem(t, impl.MaxRoom, "news", "other")
		var all []impl.Entry
		for range 12 {
			var entries []impl.Entry
			for range 1 + source.Intn(4) {
				e := madeEntry(source)
				if len(all) > 0 && source.Intn(3) == 0 {
					e = all[source.Intn(len(all))]
				}
				if len(mailText(e, "news")) <= impl.MaxLetter && len(h.fresh(append(slices.Clone(entries), e))) <= 4 {
					entries = append(entries, e)
				}
			}
			all = append(all, entries...)
			if len(h.there().Mails)+len(entries) > impl.MaxMails || len(h.ever)+len(entries) > impl.MaxKeys || len(h.w.Engine.Log.Data) > 30000 {
				break
			}
			switch source.Intn(5) {
			case 0:
				h.crash(source.Intn(3000)-10, entries...)
			case 1:
				for i, gone := range h.gone {
					if !gone && source.Intn(3) == 0 {
						h.expunge(i + 1)
					}
				}
			}
			h.poll(source.Intn(2) == 0, entries...)
			h.pollNothing(all[max(0, len(all)-20):]...)
			if source.Intn(3) == 0 {
				h.read()
			}
		}
		h.read()
	}
}

// The same by a console, which says the octets of mails without their bytes 13.
func TestWholeByAConsole(t *testing.T) {
	entries := trickyEntries()
	for _, atom := range []bool{false, true} {
		for _, list := range [][]impl.Entry{entries[:5], twice(entries[5:10]), entries[10:], {entries[3], entries[5]}} {
			fresh := (&theorem{}).fresh(list)
			feed := inOneLine(feedText(impl.Feed{Atom: atom, Entries: list}))
			script := "make news\npoll news " + feed + "\npoll news " + feed + "\ncrash\npoll news " + feed + "\nimap 0\nsay 0 a login me feed\nsay 0 b select news\nsay 0 c fetch 1:* body[]\nnntp 1\nsay 1 group news\n"
			flags := `* FLAGS (\Seen \Answered \Flagged \Deleted \Draft)`
			count := len(fresh)
			want := fmt.Sprintf("ok\n%d new\n0 new\nok\n0 new\n* OK ready\na OK LOGIN\n%s\n* %d EXISTS\n* 0 RECENT\n* OK [UIDVALIDITY 1]\n* OK [UIDNEXT %d]\nb OK [READ-WRITE] SELECT\n", count, flags, count, count+1)
			for i, e := range fresh {
				mail := mailText(e, "news")
				want += fmt.Sprintf("* %d FETCH (BODY[] {%d}\n%s)\n", i+1, len(mail), strings.ReplaceAll(mail, "\r\n", "\n"))
			}
			want += fmt.Sprintf("c OK FETCH\n201 ready\n211 %d 1 %d news\n", count, count)
			for i, e := range fresh {
				script += fmt.Sprintf("say 1 article %d\n", i+1)
				want += fmt.Sprintf("220 %d <%d@news>\n", i+1, impl.Check32([]byte(e.Id)))
				for _, line := range strings.Split(strings.TrimSuffix(mailText(e, "news"), "\r\n"), "\r\n") {
					if strings.HasPrefix(line, ".") {
						want += "."
					}
					want += line + "\n"
				}
				want += ".\n"
			}
			if said, code := checkConsole(t, script); said != want || code != impl.OK {
				t.Errorf("Console of %.400q = %.2000q, %d, not %.2000q", script, said, code, want)
			}
		}
	}
}
