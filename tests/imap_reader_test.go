package tests

import (
	"fmt"
	"math/rand"
	"regexp"
	"slices"
	"strconv"
	"strings"
	"testing"

	"loop.example/g00268/impl"
)

// Chapter 14 once more, by patterns, over the other readers of commands, sets, flags, searches, mails and mutations: what a session says is held against it.
var (
	itemPattern   = regexp.MustCompile(`^(?:FLAGS|UID|RFC822\.SIZE|BODY(\.PEEK)?\[(HEADER|TEXT|)\])$`)
	wayPattern    = regexp.MustCompile(`^([+-]?)FLAGS(\.SILENT)?$`)
	updatePattern = regexp.MustCompile(`^\* (0|[1-9][0-9]*) (EXPUNGE|EXISTS)$`)
	octetsFinder  = regexp.MustCompile(`BODY\[(HEADER|TEXT|)\] \{(0|[1-9][0-9]*)\}\r\n`)
	// Of each command the states in which it is done, and how many words it has.
	namePatterns = map[string]string{
		"CAPABILITY": `^[123]:0$`, "NOOP": `^[123]:0$`, "LOGOUT": `^[123]:0$`, "LOGIN": `^1:2$`, "LIST": `^[23]:2$`, "SELECT": `^[23]:1$`, "EXAMINE": `^[23]:1$`, "STATUS": `^[23]:2$`, "EXPUNGE": `^3:0$`, "CLOSE": `^3:0$`,
		"FETCH": `^3:2$`, "STORE": `^3:3$`, "SEARCH": `^3:[0-9]+$`, "UID FETCH": `^3:3$`, "UID STORE": `^3:4$`, "UID SEARCH": `^3:[0-9]+$`,
	}
)

// uidsOf is the uids of a box's mails.
func uidsOf(b impl.Box) []int {
	var list []int
	for _, m := range b.Mails {
		list = append(list, m.Uid)
	}
	return list
}

func rightView(view []int) bool {
	return slices.IsSorted(view) && len(slices.Compact(slices.Clone(view))) == len(view) && (len(view) == 0 || view[0] >= 1 && view[len(view)-1] <= 1000)
}

// rightSession is ImapOK once more: what is left when Box, ReadOnly and View are taken away is a state.
func rightSession(s impl.Imap) bool {
	rest := s
	if s.State == 3 && boxPattern.MatchString(s.Box) && rightView(s.View) {
		rest.Box, rest.ReadOnly, rest.View = "", false, nil
	}
	return s.State >= 0 && s.State <= 3 && sameAnswer(rest, impl.Imap{State: s.State}) && (s.State != 3 || s.Box != "")
}

// updatesOf is ViewUpdates once more: mails go one by one out of a list.
func updatesOf(b impl.Box, view []int) (string, []int, int) {
	switch {
	case len(view) > 4096:
		return "", nil, impl.ErrLong
	case !rightBox(b) || !rightView(view):
		return "", nil, impl.ErrBad
	}
	said, list, uids := "", slices.Clone(view), uidsOf(b)
	gone := func(uid int) bool { return !slices.Contains(uids, uid) }
	for slices.ContainsFunc(list, gone) {
		at := slices.IndexFunc(list, gone)
		said += fmt.Sprintf("* %d EXPUNGE\r\n", at+1)
		list = slices.Delete(list, at, at+1)
	}
	top := slices.Max(append([]int{0}, list...))
	come := slices.DeleteFunc(uids, func(uid int) bool { return uid <= top })
	if list = append(list, come...); come != nil && len(come) > 0 {
		said += fmt.Sprintf("* %d EXISTS\r\n", len(list))
	}
	return said, list, impl.OK
}

// partOf is a part of a text, and whether the text has it.
func partOf(text, part string) (string, bool) {
	m, code := mailOf(text)
	head := len(text) - len(m.Body)
	return map[string]string{"": text, "HEADER": text[:head], "TEXT": m.Body}[part], code == impl.OK
}

// fetchOf is FetchText once more.
func fetchOf(m impl.Stored, seq int, items []string, withUid bool) (string, bool, int) {
	switch {
	case len(items) > 4096:
		return "", false, impl.ErrLong
	case len(items) > 30 || m.Uid < 1 || m.Uid > 1000 || m.Flags|31 != 31 || len(m.Text) > 4000:
		return "", false, impl.ErrBad
	case !rightNumbers(seq, 0):
		return "", false, impl.ErrRange
	}
	said, asked, seen := "", false, false
	for _, item := range items {
		great := greatLetters.Replace(item)
		found := itemPattern.FindStringSubmatch(great)
		if found == nil {
			return "", false, impl.ErrForm
		}
		switch great {
		case "FLAGS":
			flags, _ := flagsText(m.Flags)
			said += " FLAGS " + flags
		case "UID":
			said, asked = said+fmt.Sprint(" UID ", m.Uid), true
		case "RFC822.SIZE":
			said += fmt.Sprint(" RFC822.SIZE ", len(m.Text))
		default:
			octets, ok := partOf(m.Text, found[2])
			if !ok {
				return "", false, impl.ErrForm
			}
			said += fmt.Sprintf(" BODY[%s] {%d}\r\n%s", found[2], len(octets), octets)
			seen = seen || found[1] == ""
		}
	}
	if withUid && !asked {
		said = fmt.Sprint(" UID ", m.Uid) + said
	}
	return fmt.Sprintf("* %d FETCH (%s)\r\n", seq, strings.TrimPrefix(said, " ")), seen, impl.OK
}

// A speaker is a session, its engine, and the command that it is told.
type speaker struct {
	e    impl.Engine
	s    impl.Imap
	c    impl.Command
	uids bool
	said string
}

func (k *speaker) box(name string) (impl.Box, bool) {
	at := slices.IndexFunc(k.e.Boxes, func(b impl.Box) bool { return b.Name == name })
	if at < 0 {
		return impl.Box{}, false
	}
	return k.e.Boxes[at], true
}

// commit is whether a mutation could be committed.
func (k *speaker) commit(m impl.Mutation) bool {
	boxes, code := mutatedBoxes(k.e.Boxes, m)
	data := k.e.Log.Data + written(string(writtenMutation(m)))
	if code != impl.OK || len(data) > k.e.Log.Room {
		return false
	}
	k.e = impl.Engine{Log: sureLog(k.e.Log.Room, data), Boxes: boxes}
	return true
}

// mails is the numbers of the View's mails that are there and of which ask says so, and the mails.
func (k *speaker) mails(ask func(number int, m impl.Stored) bool) ([]int, []impl.Stored) {
	var numbers []int
	var list []impl.Stored
	b, _ := k.box(k.s.Box)
	for _, m := range b.Mails {
		if number := slices.Index(k.s.View, m.Uid) + 1; number > 0 && ask(number, m) {
			numbers, list = append(numbers, number), append(list, m)
		}
	}
	return numbers, list
}

func (k *speaker) topUid() int { return slices.Max(append([]int{0}, k.s.View...)) }

// mailsOf is those of a set.
func (k *speaker) mailsOf(set []impl.Range) ([]int, []impl.Stored) {
	return k.mails(func(number int, m impl.Stored) bool {
		if k.uids {
			return between(set, m.Uid, k.topUid())
		}
		return between(set, number, len(k.s.View))
	})
}

func (k *speaker) updates() {
	if k.s.State == 3 {
		b, _ := k.box(k.s.Box)
		said, view, _ := updatesOf(b, k.s.View)
		k.said, k.s.View = k.said+said, view
	}
}

// do is the word that ends the answer; each part of the commands is asked for it in turn.
func (k *speaker) do() string {
	switch k.c.Name {
	case "CAPABILITY":
		k.said = "* CAPABILITY IMAP4rev1\r\n"
	case "NOOP":
		k.updates()
	case "LOGOUT":
		k.said, k.s = "* BYE\r\n", impl.Imap{}
	case "LOGIN":
		if !boxPattern.MatchString(k.c.Args[0]) || k.c.Args[1] != "feed" {
			return "NO"
		}
		k.s.State = 2
	case "LIST":
		for _, b := range k.e.Boxes {
			if slices.Contains([]string{"*", b.Name}, k.c.Args[1]) {
				k.said += "* LIST () \"/\" " + b.Name + "\r\n"
			}
		}
		k.updates()
	case "SELECT", "EXAMINE":
		return k.choose()
	case "STATUS":
		return k.status()
	case "FETCH":
		return k.fetch()
	case "STORE":
		return k.store()
	case "SEARCH":
		return k.search()
	case "EXPUNGE", "CLOSE":
		return k.expunge()
	}
	return "OK"
}

func (k *speaker) choose() string {
	k.s = impl.Imap{State: 2}
	b, there := k.box(k.c.Args[0])
	if !there {
		return "NO"
	}
	k.s = impl.Imap{State: 3, Box: b.Name, ReadOnly: k.c.Name == "EXAMINE", View: uidsOf(b)}
	k.said = fmt.Sprintf("* FLAGS (\\Seen \\Answered \\Flagged \\Deleted \\Draft)\r\n* %d EXISTS\r\n* 0 RECENT\r\n* OK [UIDVALIDITY %d]\r\n* OK [UIDNEXT %d]\r\n", len(b.Mails), b.Valid, b.Next)
	return map[string]string{"SELECT": "OK [READ-WRITE]", "EXAMINE": "OK [READ-ONLY]"}[k.c.Name]
}

func (k *speaker) status() string {
	names, code := listOf(k.c.Args[1])
	if code != impl.OK {
		return "BAD"
	}
	b, there := k.box(k.c.Args[0])
	if !there {
		return "NO"
	}
	unseen := 0
	for _, m := range b.Mails {
		unseen += 1 - m.Flags%2
	}
	counts := map[string]int{"MESSAGES": len(b.Mails), "RECENT": 0, "UIDNEXT": b.Next, "UIDVALIDITY": b.Valid, "UNSEEN": unseen}
	var told []string
	for _, name := range names {
		count, known := counts[greatLetters.Replace(name)]
		if !known {
			return "BAD"
		}
		told = append(told, fmt.Sprint(greatLetters.Replace(name), " ", count))
	}
	k.said = "* STATUS " + b.Name + " (" + strings.Join(told, " ") + ")\r\n"
	return "OK"
}

func (k *speaker) fetch() string {
	set, code := setOf(k.c.Args[0])
	items := []string{k.c.Args[1]}
	if list, ok := strings.CutPrefix(k.c.Args[1], "("); ok {
		if items, _ = listOf("(" + list); items == nil {
			return "BAD"
		}
	}
	// Of any mail that is right they are items.
	if _, _, wrong := fetchOf(impl.Stored{Uid: 1, Text: "\r\n"}, 1, items, false); code != impl.OK || wrong != impl.OK {
		return "BAD"
	}
	numbers, mails := k.mailsOf(set)
	for i, m := range mails {
		if _, _, code := fetchOf(m, numbers[i], items, false); code != impl.OK {
			return "BAD"
		}
	}
	for i, m := range mails {
		_, sees, _ := fetchOf(m, numbers[i], items, false)
		if sees && !k.s.ReadOnly && m.Flags%2 == 0 {
			if !k.commit(flagged(k.s.Box, m.Uid, 2, 1)) {
				return "NO"
			}
			m.Flags++
		}
		said, _, _ := fetchOf(m, numbers[i], items, k.uids)
		k.said += said
	}
	return "OK"
}

func (k *speaker) store() string {
	set, setCode := setOf(k.c.Args[0])
	way := wayPattern.FindStringSubmatch(greatLetters.Replace(k.c.Args[1]))
	flags, code := flagsOf(k.c.Args[2])
	if setCode != impl.OK || way == nil || code != impl.OK {
		return "BAD"
	}
	if k.s.ReadOnly {
		return "NO"
	}
	numbers, mails := k.mailsOf(set)
	for i, m := range mails {
		if !k.commit(flagged(k.s.Box, m.Uid, map[string]int{"": 1, "+": 2, "-": 3}[way[1]], flags)) {
			return "NO"
		}
		if way[2] == "" {
			m.Flags = map[string]int{"": flags, "+": m.Flags | flags, "-": m.Flags &^ flags}[way[1]]
			said, _, _ := fetchOf(m, numbers[i], []string{"FLAGS"}, k.uids)
			k.said += said
		}
	}
	return "OK"
}

func (k *speaker) search() string {
	keys, code := searchOf(k.c.Args)
	if code != impl.OK {
		return "BAD"
	}
	numbers, mails := k.mails(func(number int, m impl.Stored) bool {
		meets, _ := matchOf(keys, m, number, len(k.s.View), k.topUid())
		return meets
	})
	k.said = "* SEARCH"
	for i, m := range mails {
		if k.uids {
			numbers[i] = m.Uid
		}
		k.said += " " + strconv.Itoa(numbers[i])
	}
	k.said += "\r\n"
	return "OK"
}

func (k *speaker) expunge() string {
	b, _ := k.box(k.s.Box)
	deleted := slices.ContainsFunc(b.Mails, func(m impl.Stored) bool { return m.Flags/8%2 == 1 })
	switch {
	case k.s.ReadOnly && k.c.Name == "EXPUNGE":
		return "NO"
	case !k.s.ReadOnly && deleted && !k.commit(expunged(k.s.Box)):
		return "NO"
	case k.c.Name == "CLOSE":
		k.s = impl.Imap{State: 2}
	default:
		k.updates()
	}
	return "OK"
}

// spoken is what a session that is not closed says to one command, and the engine and the session then.
func spoken(e impl.Engine, s impl.Imap, text string) (impl.Engine, impl.Imap, string) {
	c, code := commandOf(text)
	if code != impl.OK {
		return e, s, "* BAD\r\n"
	}
	k := speaker{e: e, s: s, c: c}
	full, name := c.Name, c.Name
	if c.Name == "UID" && len(c.Args) > 0 {
		full = "UID " + greatLetters.Replace(c.Args[0])
	}
	pattern, known := namePatterns[full]
	if !known || !regexp.MustCompile(pattern).MatchString(fmt.Sprintf("%d:%d", s.State, len(c.Args))) {
		return e, s, c.Tag + " BAD " + c.Name + "\r\n"
	}
	if k.uids = c.Name == "UID"; k.uids {
		name = strings.TrimPrefix(full, "UID ")
		k.c.Name, k.c.Args = name, c.Args[1:]
	}
	end := k.do()
	if end == "BAD" {
		name = c.Name
	}
	return k.e, k.s, k.said + c.Tag + " " + end + " " + name + "\r\n"
}

// stepped is ImapStep once more.
func stepped(e impl.Engine, s impl.Imap, text string) (impl.Engine, impl.Imap, string, int) {
	there := slices.ContainsFunc(e.Boxes, func(b impl.Box) bool { return b.Name == s.Box })
	switch {
	case len(text) > 65536:
		return impl.Engine{}, impl.Imap{}, "", impl.ErrLong
	case !rightEngine(e) || !rightSession(s) || s.State == 3 && !there:
		return impl.Engine{}, impl.Imap{}, "", impl.ErrBad
	case s.State == 0:
		return e, s, "", impl.ErrState
	case len(text) > 4000:
		return impl.Engine{}, impl.Imap{}, "", impl.ErrRange
	}
	e, s, said := spoken(e, s, text)
	return e, s, said, impl.OK
}

// ranOf is ImapRun once more.
func ranOf(e impl.Engine, lines []string) (impl.Engine, string, int) {
	switch {
	case len(lines) > 4096:
		return impl.Engine{}, "", impl.ErrLong
	case !rightEngine(e):
		return impl.Engine{}, "", impl.ErrBad
	case len(lines) > 60:
		return impl.Engine{}, "", impl.ErrMany
	case slices.ContainsFunc(lines, func(line string) bool { return len(line) > 4000 }):
		return impl.Engine{}, "", impl.ErrRange
	}
	s, all := impl.Imap{State: 1}, ""
	for _, line := range lines {
		var said string
		if e, s, said = spoken(e, s, line); s.State == 0 {
			return e, all + said, impl.OK
		}
		all += said
	}
	return e, all, impl.OK
}

// checkUpdates holds updates against the other session; it says them and the code.
func checkUpdates(t *testing.T, b impl.Box, view []int) (string, []int, int) {
	t.Helper()
	want, wantView, wantCode := updatesOf(b, view)
	said, left, code := impl.ViewUpdates(b, view)
	if said != want || !slices.Equal(left, wantView) || code != wantCode {
		t.Errorf("ViewUpdates of %s, %s = %q, %d, %d, not %q, %d, %d", told(b), told(view), said, left, code, want, wantView, wantCode)
	}
	return said, left, code
}

// checkFetch holds what is told of a mail against the other session; it says it.
func checkFetch(t *testing.T, m impl.Stored, seq int, items []string, withUid bool) (string, bool, int) {
	t.Helper()
	want, wantSeen, wantCode := fetchOf(m, seq, items, withUid)
	said, seen, code := impl.FetchText(m, seq, items, withUid)
	if said != want || seen != wantSeen || code != wantCode {
		t.Errorf("FetchText of %s, %d, %s, %t = %.400q, %t, %d, not %.400q, %t, %d", told(m), seq, told(briefWords(items)), withUid, said, seen, code, want, wantSeen, wantCode)
	}
	return said, seen, code
}

func checkFetchCode(t *testing.T, m impl.Stored, seq int, items []string, wantCode int) {
	t.Helper()
	for _, withUid := range []bool{false, true} {
		if said, seen, code := checkFetch(t, m, seq, items, withUid); code != wantCode || code != impl.OK && (said != "" || seen) {
			t.Errorf("FetchText of %s, %d, %s = %.100q, %t, %d, not %d", told(m), seq, told(briefWords(items)), said, seen, code, wantCode)
		}
	}
}

// checkSpoken holds a command of a right session that is not closed against the other one; it says what the program answers.
func checkSpoken(t *testing.T, e impl.Engine, s impl.Imap, text string) (impl.Engine, impl.Imap, string) {
	t.Helper()
	wantEngine, wantSession, want := spoken(e, s, text)
	got, next, said, code := impl.ImapStep(e, s, text)
	if said != want || !sameAnswer(next, wantSession) || !sameAnswer(got, wantEngine) || code != impl.OK {
		t.Errorf("in %s %.200q gets %.600q, %s, %d, not %.600q, %s", told(s), text, said, told(next), code, want, told(wantSession))
		if !sameAnswer(got, wantEngine) {
			t.Errorf("behind it %s is %s, not %s", told(e), told(got), told(wantEngine))
		}
	}
	if !impl.ImapOK(next) || !rightSession(next) || !impl.EngineOK(got) {
		t.Errorf("behind %.200q the session %s or the engine is not right", text, told(next))
	}
	return got, next, said
}

// checkStep holds a command of any session against the other one.
func checkStep(t *testing.T, e impl.Engine, s impl.Imap, text string) int {
	t.Helper()
	wantEngine, wantSession, want, wantCode := stepped(e, s, text)
	got, next, said, code := impl.ImapStep(e, s, text)
	if said != want || code != wantCode || !sameAnswer(next, wantSession) || !sameAnswer(got, wantEngine) {
		t.Errorf("ImapStep of %s, %s, %.100q = %s, %s, %.200q, %d, not %s, %s, %.200q, %d", told(e), told(s), text, told(got), told(next), said, code, told(wantEngine), told(wantSession), want, wantCode)
	}
	return code
}

func checkStepCode(t *testing.T, e impl.Engine, s impl.Imap, text string, wantCode int) {
	t.Helper()
	if code := checkStep(t, e, s, text); code != wantCode {
		t.Errorf("ImapStep of %s, %s, %.100q has the code %d, not %d", told(e), told(s), text, code, wantCode)
	}
}

// checkRun holds a run against the other one; it says what the program answers.
func checkRun(t *testing.T, e impl.Engine, lines []string) (impl.Engine, string, int) {
	t.Helper()
	wantEngine, want, wantCode := ranOf(e, lines)
	got, said, code := impl.ImapRun(e, lines)
	if said != want || code != wantCode || !sameAnswer(got, wantEngine) {
		t.Errorf("ImapRun of %s, %s = %s, %.400q, %d, not %s, %.400q, %d", told(e), told(briefWords(lines)), told(got), said, code, told(wantEngine), want, wantCode)
	}
	return got, said, code
}

func checkRunCode(t *testing.T, e impl.Engine, lines []string, wantCode int) {
	t.Helper()
	if _, _, code := checkRun(t, e, lines); code != wantCode {
		t.Errorf("ImapRun of %s, %d lines has the code %d, not %d", told(e), len(lines), code, wantCode)
	}
}

// A client is who talks: it asks for one line after the other, and for what it gets.
type client struct {
	t *testing.T
	e impl.Engine
	s impl.Imap
}

// newClient is one that is logged in, and told a command perhaps.
func newClient(t *testing.T, e impl.Engine, lines ...string) *client {
	t.Helper()
	c := &client{t, e, impl.NewImap()}
	for _, line := range append([]string{"l login me feed"}, lines...) {
		if said := c.ask(line); !strings.Contains("\r\n"+said, "\r\n"+line[:1]+" OK ") {
			t.Fatalf("%q gets %q", line, said)
		}
	}
	return c
}

func (c *client) ask(line string) string {
	c.t.Helper()
	var said string
	c.e, c.s, said = checkSpoken(c.t, c.e, c.s, line)
	return said
}

// say asks for lines, the end of each being left out.
func (c *client) say(line string, want ...string) {
	c.t.Helper()
	if said := c.ask(line); said != strings.Join(want, "\r\n")+"\r\n" {
		c.t.Errorf("%.200q gets %q, not %q", line, said, want)
	}
}

// commit is what others do to the engine.
func (c *client) commit(list ...impl.Mutation) {
	c.t.Helper()
	for _, m := range list {
		next, code := impl.Commit(c.e, m)
		if code != impl.OK {
			c.t.Errorf("Commit of %s has the code %d", told(m), code)
			return
		}
		c.e = next
	}
}

// madeCommandLine is a command of a session, right or not.
func madeCommandLine(source *rand.Rand) string {
	set := func() string {
		return oneOf(source, "1", "2", "3", "1:*", "*", "*:1", "4:2", "2:4", "7", "9:8", "1,3", "2,*", "1:2,4:5", "1000", "4294967295", "5:*", "0", "x", "")
	}
	item := func() string {
		return oneOf(source, "flags", "UID", "rfc822.size", "BODY[]", "body[text]", "BODY[HEADER]", "body.peek[]", "BODY.PEEK[TEXT]", "body.peek[Header]")
	}
	line := ""
	switch source.Intn(14) {
	case 0:
		line = oneOf(source, "noop", "NOOP", "noop", "capability", "expunge", "close", "logout", "noop x", "expunge 1", "list", "none", "login me feed", "\"\"")
	case 1, 2:
		line = oneOf(source, "select", "examine", "SELECT", "Examine") + " " + oneOf(source, "news", "news", "more", "none", "\"news\"", "{4}\r\nnews", "news x", "(news)")
	case 3:
		line = "list " + oneOf(source, "\"\"", "x", "()") + " " + oneOf(source, "*", "news", "more", "none", "%", "\"*\"", "* x")
	case 4:
		line = "status " + oneOf(source, "news", "more", "none") + " " + oneOf(source, "(messages)", "(Unseen RECENT)", "(uidnext uidvalidity messages messages)", "()", "messages", "(none)", "(messages  unseen)")
	case 5, 6, 7:
		line = "fetch " + set() + " " + oneOf(source, item(), "("+item()+")", "("+item()+" "+item()+" "+item()+")", item()+" "+item(), "none", "()", "(flags none)")
	case 8, 9, 10:
		line = "store " + set() + " " + oneOf(source, "flags", "+FLAGS", "-flags", "Flags.Silent", "+flags.silent", "-FLAGS.SILENT", "flag") + " " + oneOf(source, "()", "(\\Seen)", "(\\deleted)", "(\\Deleted)", "(\\Flagged \\DRAFT)", "(\\Answered \\seen)", "\\Seen", "(none)")
	case 11:
		line = "search " + oneOf(source, "all", "seen", "UNSEEN", "not deleted", "flagged", set(), "not "+set(), "uid "+set(), "subject \"title of\"", "text b", "from none", "1:2 unseen", "none", "undeleted not 2")
	case 12:
		line = oneOf(source, "expunge", "noop", "close")
	case 13:
		line = "store " + set() + " +flags.silent (\\Deleted)"
	}
	if source.Intn(3) == 0 {
		line = oneOf(source, "uid ", "UID ", "uid ") + line
	}
	return oneOf(source, "a", "A1", "}") + " " + line
}
