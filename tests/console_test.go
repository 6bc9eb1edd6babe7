package tests

import (
	"fmt"
	"math/rand"
	"slices"
	"sort"
	"strings"
	"testing"

	"loop.example/g00268/impl"
)

func TestBoundOfLines(t *testing.T) {
	if impl.MaxLines != 100 {
		t.Error("the bound of lines is", impl.MaxLines)
	}
}

// A lineForm is a line of a kind with just the words that it wants, and the event that it says.
type lineForm struct {
	words []string
	event impl.Event
}

func lineForms() []lineForm {
	return []lineForm{
		{[]string{"make", "news"}, impl.Event{Kind: impl.GwMake, Box: "news"}},
		{[]string{"poll", "news", "<feed/>"}, impl.Event{Kind: impl.GwPoll, Box: "news", Data: "<feed/>"}},
		{[]string{"imap", "0"}, impl.Event{Kind: impl.GwImap}},
		{[]string{"nntp", "1"}, impl.Event{Kind: impl.GwNntp, Conn: 1}},
		{[]string{"close", "2"}, impl.Event{Kind: impl.GwClose, Conn: 2}},
		{[]string{"say", "3", "noop"}, impl.Event{Kind: impl.GwBytes, Conn: 3, Data: "noop\r\n"}},
		{[]string{"crash"}, impl.Event{Kind: impl.GwCrash}},
	}
}

// isOpen is whether a line of a form takes whatever stands behind it.
func (f lineForm) isOpen() bool { return f.event.Kind == impl.GwPoll || f.event.Kind == impl.GwBytes }

func TestLinesOfEveryKind(t *testing.T) {
	for _, f := range lineForms() {
		// Too few words; of TEXT none is enough.
		for n := range f.words {
			line := strings.Join(f.words[:n], " ")
			for _, line := range []string{line, line + " ", "  " + line + "  "} {
				if f.event.Kind == impl.GwBytes && n == 2 {
					checkEventSaid(t, line, impl.Event{Kind: impl.GwBytes, Conn: 3, Data: "\r\n"})
				} else {
					checkNoEvent(t, line, impl.ErrForm)
				}
			}
		}
		// As many as it wants, with blanks of every number.
		for ahead := range 4 {
			for between := 1; between < 5; between++ {
				for behind := range 4 {
					line := strings.Repeat(" ", ahead) + strings.Join(f.words, strings.Repeat(" ", between)) + strings.Repeat(" ", behind)
					checkEventSaid(t, line, f.event)
				}
			}
		}
		checkEventSaid(t, strings.Repeat(" ", 3000)+strings.Join(f.words, strings.Repeat(" ", 3000))+strings.Repeat(" ", 3000), f.event)
		// Too many; a feed, or a text, has them all.
		for _, more := range []string{"x", "0", "#", "# x", "\x00", "\r", "\t", "\r\n", "x y", "\u00a0"} {
			line := strings.Join(f.words, " ") + " " + more
			if !f.isOpen() {
				checkNoEvent(t, line, impl.ErrForm)
				checkNoEvent(t, "  "+line+"  ", impl.ErrForm)
				continue
			}
			e := f.event
			e.Data = strings.TrimSuffix(e.Data, "\r\n") + " " + more + strings.TrimPrefix(e.Data, strings.TrimSuffix(e.Data, "\r\n"))
			checkEventSaid(t, line, e)
			checkEventSaid(t, "  "+line+"  ", e)
		}
	}
}

func TestFirstWordsOfLines(t *testing.T) {
	for _, f := range lineForms() {
		rest := strings.Join(append([]string{""}, f.words[1:]...), " ")
		word := f.words[0]
		for _, other := range append(mixed(word)[1:], strings.ToUpper(word), strings.ToUpper(word[:1])+word[1:], word+"s", word[1:], word[:len(word)-1], word+"#", "#"+word, "\x00"+word, word+"\x00", word+"\r", "\r"+word, "\t"+word, "\n"+word, word+"\n", word+"\t", word+"\u00a0", "\""+word+"\"", word+";") {
			if other != word {
				checkNoEvent(t, other+rest, impl.ErrForm)
			}
		}
		// A byte that is no blank parts no words.
		for _, sign := range []string{"\t", "\r", "\n", "\x00", "\u00a0", "\v", "\f", ",", "=", ""} {
			if len(f.words) > 1 {
				checkNoEvent(t, word+sign+strings.Join(f.words[1:], " "), impl.ErrForm)
			}
			if len(f.words) == 2 {
				checkNoEvent(t, strings.Join(f.words, sign), impl.ErrForm)
			}
		}
	}
	for _, line := range []string{"", " ", "   ", strings.Repeat(" ", 32768), "#", "# make x", "#make x", "  #", "  # say 0 a", "##", "#\x00", "#\r", "go", "help", "quit", "fetch", "bytes 0 x", "event", "0", "1 imap", "x make y", "make, x", "\r", "\t", "\x00", "\xff", "\n", "\u00e4", "*"} {
		checkNoEvent(t, line, impl.ErrForm)
	}
	for c := range 256 {
		sign := string([]byte{byte(c)})
		checkNoEvent(t, sign, impl.ErrForm)
		checkNoEvent(t, "crash "+strings.ReplaceAll(sign, " ", "x"), impl.ErrForm)
		if sign != " " {
			checkNoEvent(t, sign+"crash", impl.ErrForm)
			checkNoEvent(t, "crash"+sign, impl.ErrForm)
		}
	}
}

func TestNumbersOfLines(t *testing.T) {
	kinds := map[string]int{"imap": impl.GwImap, "nntp": impl.GwNntp, "close": impl.GwClose, "say": impl.GwBytes}
	for word, kind := range kinds {
		said := func(n int, text string) impl.Event {
			e := impl.Event{Kind: kind, Conn: n}
			if kind == impl.GwBytes {
				e.Data = text + "\r\n"
			}
			return e
		}
		for _, n := range []int{0, 1, 2, 3, 4, 5, 9, 10, 42, 100, 4096, 1 << 32, 999999999999999999, -1, -2, -9, -10, -999999999999999999} {
			checkEventSaid(t, fmt.Sprint(word, " ", n), said(n, ""))
			checkEventSaid(t, fmt.Sprint("  ", word, "   ", n, "  "), said(n, ""))
		}
		for _, no := range []string{"00", "01", "-0", "-01", "+0", "+1", "--1", "-", "+", "1-", "1000000000000000000", "-1000000000000000000", "9223372036854775807", "9223372036854775808", "18446744073709551616", "1.0", "1.", ".1", "1e1", "0x1", "0b1", "0o7", "1_0", "\u0661", "\uff11", "1\r", "1\t", "1\x00", "1\n", "\r1", "#1", "1#", "x", "a1", "1a", "'1'", "news", strings.Repeat("0", 100), strings.Repeat("1", 19), strings.Repeat("1", 30000)} {
			checkNoEvent(t, word+" "+no, impl.ErrForm)
			checkNoEvent(t, word+" "+no+" x", impl.ErrForm)
			if code := impl.ErrForm; kind != impl.GwBytes {
				checkNoEvent(t, word+" 1 "+no, code)
			} else {
				checkEventSaid(t, word+" 1 "+no, said(1, no))
			}
		}
	}
}

func TestTailsOfLines(t *testing.T) {
	for _, tail := range []string{"x", "a b", "a  b", "a   b  c", "<feed a='b  c'>  </feed>", "\t", "\t x \t", "\r", "\r\r", "x\r", "\rx", "\x00", "a\x00 b", "\u00a0", "\u00a0 a \u00a0", "#", "# a", "1", "\"a  b\"", "\\", "{3}", "a {3}", "\xff", "\xff \xfe", "\u00e4 \u20ac", "x\ny", "\n", "\r\n", "say 0 x", "poll  news  <feed/>", strings.Repeat("x y ", 5000) + "z"} {
		for _, around := range []string{"", " ", "  ", strings.Repeat(" ", 100)} {
			checkEventSaid(t, "say 2 "+around+tail+around, impl.Event{Kind: impl.GwBytes, Conn: 2, Data: tail + "\r\n"})
			checkEventSaid(t, around+"poll box "+around+tail+around, impl.Event{Kind: impl.GwPoll, Box: "box", Data: tail})
			checkEventSaid(t, around+"poll box  "+around+tail+around, impl.Event{Kind: impl.GwPoll, Box: "box", Data: tail})
		}
	}
	// A BOX is one word, whatever it is, and BOX with blanks within is more.
	for _, box := range []string{"news", "9", "#", "#x", "-", "0", "\x00", "\r", "\t", "a\rb", "a\tb", "\u00a0", "\u00e4", "\xff", "NEWS", "a-b", strings.Repeat("n", 40), strings.Repeat("n", 41), strings.Repeat("n", 10000)} {
		checkEventSaid(t, "make "+box, impl.Event{Kind: impl.GwMake, Box: box})
		checkEventSaid(t, " make  "+box+"  ", impl.Event{Kind: impl.GwMake, Box: box})
		checkEventSaid(t, "poll "+box+" x", impl.Event{Kind: impl.GwPoll, Box: box, Data: "x"})
		checkEventSaid(t, "  poll   "+box+"   x  y  ", impl.Event{Kind: impl.GwPoll, Box: box, Data: "x  y"})
		for _, end := range []string{"", " ", "    "} {
			checkNoEvent(t, "poll "+box+end, impl.ErrForm)
		}
		checkNoEvent(t, "make "+box+" "+box, impl.ErrForm)
		checkNoEvent(t, "make \""+box+" x\"", impl.ErrForm)
	}
}

// A line of MaxText / 2 bytes is one, one of more is none, whatever it says.
func TestConsoleLinesOfMaxText(t *testing.T) {
	const most = impl.MaxText / 2
	x := func(n int) string { return strings.Repeat("x", n) }
	for _, f := range lineForms() {
		line := strings.Join(f.words, " ")
		for _, at := range []string{line, "  " + line + " "} {
			for n := most - 2; n <= most; n++ {
				checkEventSaid(t, strings.Repeat(" ", n-len(at))+at, f.event)
				checkEventSaid(t, at+strings.Repeat(" ", n-len(at)), f.event)
			}
			for _, n := range []int{most + 1, most + 2, impl.MaxText, impl.MaxText + 1, 5 * impl.MaxText} {
				checkNoEvent(t, strings.Repeat(" ", n-len(at))+at, impl.ErrLong)
				checkNoEvent(t, at+strings.Repeat(" ", n-len(at)), impl.ErrLong)
			}
		}
	}
	checkEventSaid(t, "make "+x(most-5), impl.Event{Kind: impl.GwMake, Box: x(most - 5)})
	checkEventSaid(t, "poll b "+x(most-7), impl.Event{Kind: impl.GwPoll, Box: "b", Data: x(most - 7)})
	checkEventSaid(t, "poll "+x(most-7)+" f", impl.Event{Kind: impl.GwPoll, Box: x(most - 7), Data: "f"})
	checkEventSaid(t, "say 0 "+x(most-6), impl.Event{Kind: impl.GwBytes, Data: x(most-6) + "\r\n"})
	// What is none, or says nothing, is too long first.
	for _, begin := range []string{"make ", "poll b ", "poll ", "say 0 ", "say x ", "imap 1 ", "imap 1", "crash ", "#", " #", "", " ", "\x00", "go "} {
		for _, sign := range []string{"x", " ", "\xff", "\r", "#"} {
			line := begin + strings.Repeat(sign, most+1)
			checkNoEvent(t, line[:most+1], impl.ErrLong)
			e, code := checkLineEvent(t, line[:most])
			if code != impl.OK && code != impl.ErrForm || code != impl.OK && e != (impl.Event{}) {
				t.Errorf("ReadLine of %.20q, %d bytes, has the code %d", line, most, code)
			}
		}
	}
	checkNoEvent(t, endlessText, impl.ErrLong)
	checkNoEvent(t, longText, impl.ErrLong)
	checkNoEvent(t, fullText, impl.ErrLong)
}

// Every byte at every place of short lines of each kind, and every such line without one of its bytes.
func TestChangedLines(t *testing.T) {
	for _, f := range lineForms() {
		line := " " + strings.Join(f.words, "  ") + " "
		for at := range len(line) + 1 {
			for c := range 256 {
				checkLineEvent(t, line[:at]+string([]byte{byte(c)})+line[at:])
				if at < len(line) {
					checkLineEvent(t, line[:at]+string([]byte{byte(c)})+line[at+1:])
				}
			}
			checkLineEvent(t, line[:at])
			checkLineEvent(t, line[at:])
			if at < len(line) {
				checkLineEvent(t, line[:at]+line[at+1:])
			}
		}
	}
	source := rand.New(rand.NewSource(17))
	for range 3000 {
		checkLineEvent(t, madeScriptLine(source))
	}
}

func TestOrdinaryScripts(t *testing.T) {
	checkSaid(t, "")
	feed := inOneLine(feedOfIds("a", "b", "c"))
	checkSaid(t, strings.Join([]string{
		"# a box, and mails", "make news", "poll news " + feed, "poll news " + feed, "", "imap 3", "nntp 0", "say 3 a login me feed", "say 3 b select news", "say 0 group news", "say 0 stat", "say 3 c store 2 +flags.silent (\\Deleted)", "say 3 d expunge", "say 0 next", "say 0 next", "close 0", "close 0", "crash", "say 3 e noop", "imap 3", "poll news <feed><entry><id>b</id></entry><entry><id>z</id></entry></feed>", "say 3 a logout", "say 3 b noop", "make news",
	}, "\n"),
		"ok", "3 new", "0 new", "* OK ready", "201 ready", "a OK LOGIN", `* FLAGS (\Seen \Answered \Flagged \Deleted \Draft)`, "* 3 EXISTS", "* 0 RECENT", "* OK [UIDVALIDITY 1]", "* OK [UIDNEXT 4]", "b OK [READ-WRITE] SELECT", "211 3 1 3 news", fmt.Sprintf("223 1 <%d@news>", impl.Check32([]byte("a"))), "c OK STORE", "* 2 EXPUNGE", "d OK EXPUNGE", fmt.Sprintf("223 3 <%d@news>", impl.Check32([]byte("c"))), "421 no next", "ok", "error state", "ok", "error state", "* OK ready", "1 new", "* BYE", "a OK LOGOUT", "error state", "error twice")
	// Its own world each time, with MaxRoom: nothing is left of the one ahead.
	for range 2 {
		checkSaid(t, "make news\npoll news "+feed+"\nimap 0\ncrash\nnntp 0", "ok", "3 new", "* OK ready", "ok", "201 ready")
	}
	checkSaid(t, "imap 0\nimap 0\nimap 1\nimap 2\nimap 3\nimap 4\nimap -1\nclose 4\nsay 4\nsay -1 x\nnntp 9", "* OK ready", "error state", "* OK ready", "* OK ready", "* OK ready", "error range", "error range", "error range", "error range", "error range", "error range")
}

// What stands behind the last end is a line only if it has a byte.
func TestLastLines(t *testing.T) {
	for text, want := range map[string][]string{
		"": {}, "\n": {}, "\n\n": {}, "\n\n\n": {}, " ": {}, " \n": {}, "#": {}, "#\n": {}, "\n#\n\n": {},
		"crash": {"ok"}, "crash\n": {"ok"}, "crash\n\n": {"ok"}, "\ncrash": {"ok"}, "crash\n ": {"ok"}, "crash\n#": {"ok"}, "crash\nx": {"ok", "error form"}, "crash\nx\n": {"ok", "error form"}, "crash\n\x00": {"ok", "error form"}, "crash\n\r": {"ok", "error form"}, "crash\n\t": {"ok", "error form"}, "crash\ncrash": {"ok", "ok"}, "x": {"error form"}, "x\n": {"error form"}, "\r": {"error form"}, "\r\n": {"error form"}, "\r\n\r\n": {"error form", "error form"}, "\n\r": {"error form"}, "\xff": {"error form"}, "\t\n": {"error form"},
		"crash\r\n": {"error form"}, "crash \r\n": {"error form"}, "crash\rcrash": {"error form"}, "crash\x00crash\n": {"error form"}, "crash crash\n": {"error form"}, "crash\x0bcrash\ncrash": {"error form", "ok"}, "crash\u2028crash": {"error form"}, "crash\u0085crash": {"error form"},
	} {
		checkSaid(t, text, want...)
	}
	// Of an end at the end nothing hangs, for a line of every kind; a byte 13 ahead of it is the line's.
	for _, f := range lineForms() {
		line := strings.Join(f.words, " ")
		said, code := checkConsole(t, line)
		if code != impl.OK || said == "" || strings.HasSuffix(said, "\n\n") || !strings.HasSuffix(said, "\n") {
			t.Errorf("to %q is said %q, %d", line, said, code)
		}
		checkSaid(t, line+"\n", strings.Split(strings.TrimSuffix(said, "\n"), "\n")...)
		if !f.isOpen() {
			want := "error form"
			if f.event.Kind == impl.GwMake {
				want = "error bad"
			}
			checkSaid(t, line+"\r\n", want)
			checkSaid(t, line+"\r", want)
		}
	}
}

// feedsOfWords is the feeds that can not be read, in one line each, by what is said then.
func feedsOfWords() map[string]string {
	list := map[string]string{}
	for code, feed := range feedsOfCodes() {
		list["error "+impl.CodeWord(code)] = inOneLine(feed)
	}
	return list
}

func TestWhatIsSaidWithEachCode(t *testing.T) {
	for want, feed := range feedsOfWords() {
		checkSaid(t, "make news\npoll news "+feed+"\npoll none "+feed+"\npoll news <feed/>", "ok", want, "error none", "0 new")
	}
	checkSaid(t, "make 9\nmake a-b\nmake "+strings.Repeat("n", 41)+"\nmake "+strings.Repeat("n", 40), "error bad", "error bad", "error bad", "ok")
	checkSaid(t, "make a\nmake b\nmake a\nmake c\nmake d\nmake e\nmake a\nmake 9", "ok", "ok", "error twice", "ok", "ok", "error full", "error twice", "error bad")
	checkSaid(t, "make\npoll\npoll a\nimap\nnntp x\nclose 01\nsay\ncrash 0\nMAKE a\ngo", slices.Repeat([]string{"error form"}, 10)...)
	checkSaid(t, "close 0\nsay 0\nsay 3 x\nimap 4\nimap 0\nimap 0\nnntp 0", "error state", "error state", "error state", "error range", "* OK ready", "error state", "error state")
	// Bytes are measured with their CRLF, and told ahead of nothing else.
	x := func(n int) string { return strings.Repeat("x", n) }
	checkSaid(t, "nntp 0\nimap 1\nsay 0 "+x(500)+"\nsay 0 "+x(501)+"\nsay 0 "+x(3999)+"\nsay 1 "+x(3998)+"\nsay 1 "+x(3999)+"\nsay 2 "+x(3999)+"\nsay 4 "+x(3999), "201 ready", "* OK ready", "500 unknown", "501 bad line", "error range", "* BAD", "error range", "error state", "error range")
	// A mail that is too long.
	long := inOneLine(feedText(impl.Feed{Entries: []impl.Entry{entryOfMail("i", impl.MaxLetter+1)}}))
	fits := inOneLine(feedText(impl.Feed{Entries: []impl.Entry{entryOfMail("i", impl.MaxLetter)}}))
	checkSaid(t, "make news\npoll news "+long+"\npoll news "+fits, "ok", "error range", "1 new")
}

// shortFeed is a feed of the Ids of keysOf from one up to another.
func shortFeed(from, to int) string {
	text := "<feed>"
	for _, id := range keysOf(to)[from:] {
		text += "<entry><id>" + id + "</id></entry>"
	}
	return text + "</feed>"
}

// Boxes and keys that are full, and what is polled at once.
func TestWhatIsSaidToPolls(t *testing.T) {
	for n := range 21 {
		checkSaid(t, fmt.Sprintf("make news\npoll news %s\n poll  news  %s ", shortFeed(0, n), shortFeed(0, n)), "ok", fmt.Sprint(n, " new"), "0 new")
	}
	lines := []string{"make news", "imap 0", "say 0 a login me feed", "poll news " + shortFeed(0, 20), "poll news " + shortFeed(20, 30), "poll news " + shortFeed(29, 31)}
	want := []string{"ok", "* OK ready", "a OK LOGIN", "20 new", "10 new", "error full"}
	checkSaid(t, strings.Join(lines, "\n"), want...)
	empty := []string{"say 0 s select news", "say 0 t store 1:* flags.silent (\\Deleted)", "say 0 c close"}
	lines = append(lines, empty...)
	lines = append(lines, "poll news "+shortFeed(0, 20), "poll news "+shortFeed(25, 45), "poll news "+shortFeed(45, 55))
	lines = append(lines, empty...)
	lines = append(lines, "poll news "+shortFeed(50, 60), "poll news "+shortFeed(59, 61), "poll news "+shortFeed(0, 20), "poll news "+shortFeed(40, 60), "crash", "poll news "+shortFeed(40, 60), "poll news "+shortFeed(59, 61))
	said, _ := checkConsole(t, strings.Join(lines, "\n"))
	polls := slices.DeleteFunc(strings.Split(said, "\n"), func(line string) bool {
		return !strings.HasSuffix(line, " new") && !strings.HasPrefix(line, "error")
	})
	if !slices.Equal(polls, []string{"20 new", "10 new", "error full", "0 new", "15 new", "10 new", "5 new", "error uid", "0 new", "0 new", "0 new", "error uid"}) {
		t.Errorf("to polls is said %q", polls)
	}
	// The log has MaxRoom: there is a poll that it takes no more, and a smaller one behind it that it takes.
	lines, want = []string{"make news"}, []string{"ok"}
	for k := range 20 {
		lines = append(lines, fmt.Sprintf("poll news <feed><entry><id>%d</id><content>%s</content></entry></feed>", k, strings.Repeat("=", 1000)))
		want = append(want, []string{"1 new", "error full"}[min(k/17, 1)])
	}
	checkSaid(t, strings.Join(append(lines, "poll news "+shortFeed(0, 1), "crash", lines[1], lines[20]), "\n"), append(want, "1 new", "ok", "0 new", "error full")...)
}

// The room is MaxRoom to the byte: what fits just so is done, one byte more is not.
func TestRoomOfConsoles(t *testing.T) {
	poll := func(id, content string) string {
		return "poll news <feed><entry><id>" + id + "</id><content>" + content + "</content></entry></feed>"
	}
	room := func(lines []string) int {
		var events []impl.Event
		for _, line := range lines {
			e, _ := impl.ReadLine(line)
			events = append(events, e)
		}
		w, _, _ := impl.WorldRun(impl.MaxRoom, events)
		return impl.MaxRoom - len(w.Engine.Log.Data)
	}
	lines, said := []string{"make news"}, []string{"ok"}
	for k := range 17 {
		lines, said = append(lines, poll(fmt.Sprint(k), strings.Repeat("=", 1000))), append(said, "1 new")
	}
	fill := func(n int) []string { return append(slices.Clone(lines), poll("last", strings.Repeat("=", n))) }
	empty := room(lines)
	filled := fill(sort.Search(1000, func(n int) bool {
		left := room(fill(n))
		return left <= 50 || left == empty
	}))
	said = append(said, "1 new")
	left := room(filled)
	if left < 20 || left > 50 {
		t.Fatalf("%d bytes are left", left)
	}
	// A box's record has 14 bytes beside the name.
	for size := 1; size <= impl.MaxName; size++ {
		script := append(slices.Clone(filled), "make "+strings.Repeat("n", size))
		if 14+size <= left {
			checkSaid(t, strings.Join(script, "\n"), append(slices.Clone(said), "ok")...)
		} else {
			checkSaid(t, strings.Join(append(script, "make n"), "\n"), append(slices.Clone(said), "error full", "ok")...)
		}
	}
}

// Texts of several lines, of none, and of bytes 13, which are left out.
func TestTextsThatAreSaid(t *testing.T) {
	checkSaid(t, "nntp 0\nsay 0 capabilities\nsay 0\nsay 0  \nsay 0 list\nmake a\nsay 0 list\nsay 0 listgroup a\nsay 0 quit\nsay 0", "201 ready", "101 can", "VERSION 2", "READER", "OVER", ".", "501 empty", "501 empty", "215 groups", ".", "ok", "215 groups", "a 0 1 n", ".", "211 0 1 0 a", ".", "205 bye", "error state")
	// Half a command says nothing, which is ok, and what is counted goes on in the next lines.
	checkSaid(t, "imap 0\nsay 0 a login {2}\nsay 0 me feed\nsay 0 b status {3}\nsay 0 new (messages)\nsay 0 b list {0}\nsay 0  *\nsay 0 c x {6}\nsay 0 ab\nsay 0 ef\nsay 0", "* OK ready", "ok", "a OK LOGIN", "ok", "b NO STATUS", "ok", "* BAD", "ok", "ok", "c BAD X", "* BAD")
	// A byte 13 of a line is said, if it is, without it; those of a text end lines.
	checkSaid(t, "nntp 1\nsay 1 list\r\nsay 1 \r\nsay 1 group\rx\nsay 1 stat", "201 ready", "501 bad line", "501 bad line", "501 bad line", "412 no group")
	checkSaid(t, "imap 1\nsay 1 \r\nsay 1 a noop\r\nsay 1 b noop", "* OK ready", "* BAD", "* BAD", "b OK NOOP")
	checkSaid(t, "imap 0\nsay 0 a {4001}\nsay 0 b", "* OK ready", "* BYE too long", "error state")
	checkSaid(t, "nntp 0\nsay 0 \x00\nsay 0 a\tb\nsay 0 \t", "201 ready", "501 bad line", "501 bad line", "501 bad line")
	// The octets of a mail, without their bytes 13: how many they were is told all the same.
	e := impl.Entry{Id: "i", Title: "\u00e4", Content: "a\n\n.\r\n=b \n.", Date: 1}
	feed := inOneLine(feedText(impl.Feed{Atom: true, Entries: []impl.Entry{e}}))
	mail := mailText(e, "news")
	want := []string{"ok", "1 new", "* OK ready", "a OK LOGIN", `* FLAGS (\Seen \Answered \Flagged \Deleted \Draft)`, "* 1 EXISTS", "* 0 RECENT", "* OK [UIDVALIDITY 1]", "* OK [UIDNEXT 2]", "b OK [READ-ONLY] EXAMINE", fmt.Sprintf("* 1 FETCH (BODY[] {%d}", len(mail))}
	want = append(want, strings.Split(mail, "\r\n")...)
	want[len(want)-1] += ")"
	want = append(want, "c OK FETCH", "201 ready", "211 1 1 1 news", fmt.Sprintf("220 1 <%d@news>", impl.Check32([]byte("i"))))
	for _, line := range strings.SplitAfter(mail, "\r\n") {
		if line != "" {
			want = append(want, strings.TrimSuffix(strings.Repeat(".", len(line)-len(strings.TrimPrefix(line, ".")))+line, "\r\n"))
		}
	}
	checkSaid(t, "make news\npoll news "+feed+"\nimap 0\nsay 0 a login me feed\nsay 0 b examine news\nsay 0 c fetch 1 body[]\nnntp 1\nsay 1 group news\nsay 1 article", append(want, ".")...)
	for _, said := range []string{"make news\nimap 0\nsay 0 x\rx\nsay 0 a noop", "nntp 0\nsay 0 help\r\r", "\r", "make \r"} {
		if all, _ := checkConsole(t, said); strings.Contains(all, "\r") || strings.Contains(all, "\n\n") {
			t.Errorf("to %q is said %q", said, all)
		}
	}
}

// A text of MaxLines lines is done, whatever they say; one of more is not.
func TestBoundsOfScripts(t *testing.T) {
	for _, line := range []string{"", " ", "#", "# make x", "crash", "go", "make x", "imap 0", "say 0 a noop", "\r", "poll x <feed/>"} {
		for _, n := range []int{0, 1, 2, 99, 100} {
			text := strings.Repeat(line+"\n", n)
			checkConsole(t, text)
			if said, code := impl.Console(text); code != impl.OK || n > 0 && (said == "") != silentPattern.MatchString(line) {
				t.Errorf("Console of %d lines %q = %.100q, %d", n, line, said, code)
			}
			// What stands behind the last end is one more only if it has a byte.
			if n == 99 {
				checkConsole(t, text+"crash")
				checkConsole(t, text+" ")
			}
			if n == 100 {
				for _, more := range []string{" ", "#", "x", "crash", "\r", "\x00", "\n", " \n", "#\n", "\n\n", "crash\n", "\nx"} {
					checkNothingSaid(t, text+more, impl.ErrMany)
					checkNothingSaid(t, more+"\n"+text, impl.ErrMany)
				}
			}
		}
		for _, n := range []int{101, 102, 200, 1000, 2000} {
			checkNothingSaid(t, strings.Repeat(line+"\n", n), impl.ErrMany)
		}
	}
	checkNothingSaid(t, strings.Repeat("\n", 101), impl.ErrMany)
	checkNothingSaid(t, strings.Repeat("\n", 32768), impl.ErrMany)
	checkNothingSaid(t, strings.Repeat("\n", 100)+strings.Repeat(" ", 32668), impl.ErrMany)
	checkSaid(t, strings.Repeat("\n", 99)+strings.Repeat(" ", 32669))
	checkSaid(t, strings.Repeat("\n", 99)+"crash", "ok")
	checkSaid(t, "crash\n"+strings.Repeat("\n", 98)+"crash\n", "ok", "ok")
	// A text that is too long is told ahead of too many lines.
	for _, n := range []int{32769, 32770, 65536, 65537, 500000} {
		for _, line := range []string{"\n", "x", "crash\n", "# x\n", " ", "make news\n", "\xff\n"} {
			checkNothingSaid(t, strings.Repeat(line, n/len(line)+1)[:n], impl.ErrLong)
		}
	}
	for _, n := range []int{32767, 32768} {
		checkSaid(t, strings.Repeat("x", n), "error form")
		checkSaid(t, strings.Repeat(" ", n))
		checkSaid(t, "#"+strings.Repeat("x", n-1))
		checkSaid(t, "crash\n#"+strings.Repeat("x", n-7), "ok")
		checkSaid(t, "#"+strings.Repeat("x", n-7)+"\ncrash", "ok")
		checkSaid(t, "make "+strings.Repeat("x", n-5), "error bad")
		checkSaid(t, "make x\npoll x "+strings.Repeat("y", n-14), "ok", "error root")
		checkSaid(t, "nntp 0\nsay 0 "+strings.Repeat("y", n-13), "201 ready", "error range")
	}
}

// everyScripts is scripts of every kind of line, and of what is none.
func everyScripts() [][]string {
	feed := inOneLine(feedOfIds("a", "b"))
	list := [][]string{
		{"make news", "poll news " + feed, "imap 0", "say 0 a login me feed", "say 0 b select news", "nntp 1", "say 1 group news", "say 1 over 1-", "say 0 c fetch 1:* (flags body[text])", "say 0 d store 1 +flags (\\Deleted)", "say 0 e expunge", "say 1 article", "say 1 next", "poll news " + feed, "close 1", "say 1 x", "say 0 f logout", "imap 0", "crash", "say 0 a", "make news", "make more", "poll more " + feed, "nntp 3", "say 3 list", "say 3 quit"},
		{"imap 0", "say 0 a login {2}", "say 0 me feed", "say 0 b {3}", "close 0", "imap 0", "say 0 c", "go", "make", "poll x", "imap x", "say", "Crash", "crash now", "\r", "\t", "\x00", "make 9", "poll none <feed/>", "imap 9", "say 0 {4001}", "say 0 x", "nntp 0", "say 0", "say 0 " + strings.Repeat("x", 3999)},
		{"", " ", "#", "  # x", "make a", "", "#crash", "make a", "   ", "make b", "# 5"},
	}
	for seed := range int64(12) {
		list = append(list, madeScript(rand.New(rand.NewSource(seed)), 30))
	}
	return list
}

// Promise 18: what is said to the first lines is a beginning of what is said to all of them, whatever comes later.
func TestFirstLinesOfScripts(t *testing.T) {
	later := []string{"\n", "#", "crash", "go\n", "make news\nmake later\n", "\x00", "imap 0\nsay 0 a login me feed\nclose 0", "poll news <feed><entry><id>later</id></entry></feed>", strings.Repeat("crash\n", 40)}
	for _, lines := range everyScripts() {
		all, code := impl.Console(strings.Join(lines, "\n"))
		if code != impl.OK {
			t.Fatalf("Console of %.400q has the code %d", lines, code)
		}
		ahead := ""
		for n := range len(lines) + 1 {
			text := strings.Join(append(slices.Clone(lines[:n]), ""), "\n")
			said, code := impl.Console(text)
			// Each line adds what is said to it, to the end of a line.
			if code != impl.OK || !strings.HasPrefix(all, said) || !strings.HasPrefix(said, ahead) || said != "" && !strings.HasSuffix(said, "\n") {
				t.Fatalf("to %d lines of %.400q is said %.400q, %d, to all %.400q", n, lines, said, code, all)
			}
			if n > 0 && silentPattern.MatchString(lines[n-1]) != (said == ahead) {
				t.Errorf("to the line %q, the last of %d, is said %q", lines[n-1], n, said[len(ahead):])
			}
			// The last end is nothing.
			if cut, code := impl.Console(strings.TrimSuffix(text, "\n")); cut != said || code != impl.OK {
				t.Errorf("without its last end to %d lines is said %.400q, %d, not %.400q", n, cut, code, said)
			}
			for _, more := range later {
				if other, code := impl.Console(text + more); !strings.HasPrefix(other, said) || code != impl.OK {
					t.Errorf("to %d lines, and %.40q behind them, is said %.400q, %d, not first %.400q", n, more, other, code, said)
				}
			}
			ahead = said
		}
		if ahead != all {
			t.Errorf("to all lines is said %.400q, and %.400q", ahead, all)
		}
		checkConsole(t, strings.Join(lines, "\n"))
	}
}

// Lines that say nothing change nothing of what is said, wherever they are put in.
func TestSilentLines(t *testing.T) {
	silent := []string{"", " ", "     ", "#", "##", "# make silent", "#make silent", "  #", "   # crash", "#\r", "#\x00\xff", "# \u00e4", "#\tx"}
	for _, lines := range everyScripts() {
		want, code := impl.Console(strings.Join(lines, "\n"))
		if code != impl.OK {
			t.Fatalf("Console of %.400q has the code %d", lines, code)
		}
		for at := range len(lines) + 1 {
			for _, line := range silent {
				text := strings.Join(slices.Insert(slices.Clone(lines), at, line), "\n")
				for _, text := range []string{text, text + "\n"} {
					if said, code := impl.Console(text); said != want || code != impl.OK {
						t.Fatalf("with %q put in at %d to %.400q is said %.400q, %d, not %.400q", line, at, lines, said, code, want)
					}
				}
			}
		}
		// At every place at once, as long as there are no more than MaxLines.
		for _, line := range silent {
			var woven []string
			for _, x := range lines {
				woven = append(woven, line, x)
			}
			if said, code := impl.Console(strings.Join(append(woven, line), "\n")); said != want || code != impl.OK {
				t.Errorf("with %q at every place of %.400q is said %.400q, %d, not %.400q", line, lines, said, code, want)
			}
			checkNoEvent(t, line, impl.ErrForm)
		}
		// All of them taken away.
		left := slices.DeleteFunc(slices.Clone(lines), silentPattern.MatchString)
		if said, code := impl.Console(strings.Join(left, "\n")); said != want || code != impl.OK {
			t.Errorf("without what says nothing %.400q gets %.400q, %d, not %.400q", lines, said, code, want)
		}
	}
}

// Blanks ahead of a line, behind it and between its words change nothing of what is said.
func TestBlanksOfScripts(t *testing.T) {
	for seed := range int64(10) {
		source := rand.New(rand.NewSource(seed))
		lines := madeScript(source, 20)
		want, _ := impl.Console(strings.Join(lines, "\n"))
		for range 4 {
			padded := slices.Clone(lines)
			for i, line := range lines {
				padded[i] = blanks(source, 0) + line + blanks(source, 0)
			}
			if said, code := impl.Console(strings.Join(padded, "\n")); said != want || code != impl.OK {
				t.Errorf("with blanks around %.400q gets %.400q, %d, not %.400q", padded, said, code, want)
			}
		}
	}
}

// Scripts that are made, line by line against the other console, and the events of their lines as one run of a world.
func TestMadeScripts(t *testing.T) {
	says := map[string]int{}
	for seed := range int64(150) {
		source := rand.New(rand.NewSource(1000 + seed))
		lines := madeScript(source, 20+source.Intn(60))
		text := strings.Join(lines, "\n")
		if len(text) > impl.MaxText/2 {
			t.Fatalf("the script of the seed %d has %d bytes", seed, len(text))
		}
		said, code := checkConsole(t, text)
		if code != impl.OK {
			t.Errorf("Console of the seed %d has the code %d", seed, code)
		}
		for _, line := range strings.Split(said, "\n") {
			says[line]++
		}
		var events []impl.Event
		for _, line := range lines {
			if e, code := checkLineEvent(t, line); code == impl.OK {
				events = append(events, e)
			}
		}
		_, tells, code := impl.WorldRun(impl.MaxRoom, events)
		if code != impl.OK {
			t.Fatalf("WorldRun of the seed %d has the code %d", seed, code)
		}
		told := ""
		for _, tell := range tells {
			told += strings.ReplaceAll(tell.Text, "\r", "")
		}
		var whole []string
		for _, line := range strings.SplitAfter(said, "\n") {
			switch {
			case line == "ok\n", strings.HasPrefix(line, "error "):
			case strings.HasSuffix(line, " new\n"):
				whole = append(whole, strings.TrimSuffix(line, " new\n"))
			default:
				whole = append(whole, line)
			}
		}
		if strings.Join(whole, "") != told {
			t.Errorf("the script of the seed %d says %.400q, its events %.400q", seed, whole, told)
		}
	}
	for _, line := range []string{"ok", "0 new", "1 new", "2 new", "error form", "error range", "error state", "error none", "error twice", "error bad", "error root", "error close", "* OK ready", "201 ready", "205 bye", "501 empty", "* BAD", "a OK LOGIN", "."} {
		if says[line] == 0 {
			t.Errorf("no script says %q", line)
		}
	}
}
