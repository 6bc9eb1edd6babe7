package tests

import (
	"fmt"
	"slices"
	"strconv"
	"strings"
	"testing"

	"loop.example/g00268/impl"
)

// someSays is sessions of each state on an engine, some with mails that went, or that came.
func someSays() []impl.Imap {
	return []impl.Imap{
		{State: 1}, {State: 2}, selectedOf("news", false, 1, 2, 3, 4, 5), selectedOf("news", true, 1, 2, 3, 4, 5), selectedOf("more", false, 1, 2), selectedOf("more", true, 2), selectedOf("none_yet", false), selectedOf("none_yet", true, 1, 9), selectedOf("news", false, 2, 3, 7, 1000), selectedOf("news", false),
	}
}

// mixed is a word in letters of either size.
func mixed(word string) []string {
	half := []byte(word)
	for i := range half {
		if i%2 == 0 {
			copy(half[i:], strings.ToLower(word[i:i+1]))
		}
	}
	return []string{word, strings.ToLower(word), string(half)}
}

func TestCommandsInEveryState(t *testing.T) {
	words := map[string][]string{
		"CAPABILITY": nil, "NOOP": nil, "LOGOUT": nil, "LOGIN": {"me", "feed"}, "LIST": {"x", "*"}, "SELECT": {"news"}, "EXAMINE": {"more"}, "STATUS": {"news", "(messages)"}, "EXPUNGE": nil, "CLOSE": nil,
		"FETCH": {"1", "flags"}, "STORE": {"1", "flags", "(\\Draft)"}, "SEARCH": {"1"}, "UID": {"fetch", "1", "flags"}, "UID FETCH": {"2", "flags"}, "UID STORE": {"2", "flags", "(\\Draft)"}, "UID SEARCH": {"uid", "2"},
		"NONE": {"1"}, "CHECK": nil, "CREATE": {"box"}, "UID EXPUNGE": nil, "UID NOOP": nil, "UID UID": {"fetch", "1", "flags"}, "UID COPY": {"1", "more"}, "FETCHES": {"1", "flags"}, "FETC": {"1", "flags"}, "IDLE": nil, "OK": nil, "BAD": nil, "*": nil, "LOGINS": {"me", "feed"},
	}
	e := newsEngine(1000)
	for name, list := range words {
		for _, s := range someSays() {
			for _, name := range mixed(name) {
				for n := range len(list) + 4 {
					// Too few words, as many as asked for, and too many.
					said := append(slices.Clone(list[:min(n, len(list))]), slices.Repeat([]string{"1"}, max(0, n-len(list)))...)
					text := strings.Join(append([]string{"a", name}, said...), " ")
					_, _, out := checkSpoken(t, e, s, text)
					great := strings.ToUpper(strings.Fields(name)[0])
					right := n == len(list) && name != "NONE"
					if !right && !strings.Contains(strings.ToUpper(name), "SEARCH") && out != "a BAD "+great+"\r\n" {
						t.Errorf("in %s %q gets %q", told(s), text, out)
					}
				}
			}
		}
	}
	// What is done in each state, of those that have the right words.
	for i, s := range someSays()[:4] {
		done := map[string]bool{}
		for name, list := range words {
			_, _, out := checkSpoken(t, e, s, strings.Join(append([]string{"a", name}, list...), " "))
			done[name] = !strings.Contains(out, "a BAD")
		}
		want := []string{"CAPABILITY", "NOOP", "LOGOUT"}
		switch {
		case i == 0:
			want = append(want, "LOGIN")
		case i > 0:
			want = append(want, "LIST", "SELECT", "EXAMINE", "STATUS")
		}
		if i > 1 {
			want = append(want, "FETCH", "STORE", "SEARCH", "UID", "UID FETCH", "UID STORE", "UID SEARCH", "EXPUNGE", "CLOSE")
		}
		for name := range words {
			if done[name] != slices.Contains(want, name) {
				t.Errorf("in the state of %s %s is done: %t", told(s), name, done[name])
			}
		}
	}
}

func TestNoCommandsOfSessions(t *testing.T) {
	e := newsEngine(1000)
	for _, text := range []string{"", " ", "a", "a ", "a  noop", " a noop", "a noop ", "a noop\r\n", "a noop\r\nb noop", "a\nnoop", "(a) noop", "\"a\" noop", "a \"\"", "a \"noop", "a noop (", "a noop)", "a {9}\r\nnoop", "\xff", "a noop \xff", strings.Repeat("t", 21) + " noop", "a noop" + strings.Repeat(" w", 31), strings.Repeat("x", 4000)} {
		for _, s := range someSays() {
			got, next, out := checkSpoken(t, e, s, text)
			if out != "* BAD\r\n" || !sameAnswer(next, s) || !sameAnswer(got, e) {
				t.Errorf("%.100q gets %q", text, out)
			}
		}
	}
	// A name of any sort is told in great letters.
	c := newClient(t, e)
	c.say("a \"no op\"", "a BAD NO OP")
	c.say("b {4}\r\nnoop", "b OK NOOP")
	c.say("c \"noop\"", "c OK NOOP")
	c.say("d {6}\r\nno\r\nop x", "d BAD NO", "OP")
	c.say("e (noop)", "e BAD (NOOP)")
	c.say("} \\", "} BAD \\")
	c.say(strings.Repeat("t", 20)+" noop"+strings.Repeat(" w", 30), strings.Repeat("t", 20)+" BAD NOOP")
}

func TestLogins(t *testing.T) {
	e := newsEngine(1000)
	for text, want := range map[string]string{
		"login me feed": "OK", "LOGIN me feed": "OK", "login _9 feed": "OK", "login \"me\" \"feed\"": "OK", "login {2}\r\nme {4}\r\nfeed": "OK", "login " + strings.Repeat("n", 40) + " feed": "OK",
		"login me Feed": "NO", "login me FEED": "NO", "login me feeds": "NO", "login me fee": "NO", "login me \"\"": "NO", "login me \"feed \"": "NO", "login 9 feed": "NO", "login \"\" feed": "NO", "login \"a b\" feed": "NO", "login me@x feed": "NO", "login " + strings.Repeat("n", 41) + " feed": "NO", "login feed me": "NO", "login me (feed)": "NO", "login {3}\r\nm\xc3\xa4 feed": "NO", "login 9 wrong": "NO",
		"login": "BAD", "login me": "BAD", "login me feed x": "BAD", "login me feed \"\"": "BAD",
	} {
		c := &client{t, e, impl.NewImap()}
		c.say("a "+text, "a "+want+" LOGIN")
		if state := map[string]int{"OK": impl.ImOpen}[want]; state == 0 && c.s.State != impl.ImNew || state != 0 && c.s.State != state {
			t.Errorf("behind %q the session is %s", text, told(c.s))
		}
	}
	// One that was refused may try again; one that is in may not.
	c := &client{t, e, impl.NewImap()}
	c.say("a login me x", "a NO LOGIN")
	c.say("b noop", "b OK NOOP")
	c.say("c list x *", "c BAD LIST")
	c.say("d login me feed", "d OK LOGIN")
	c.say("e login me feed", "e BAD LOGIN")
	c.say("f select news", "* FLAGS (\\Seen \\Answered \\Flagged \\Deleted \\Draft)", "* 5 EXISTS", "* 0 RECENT", "* OK [UIDVALIDITY 1]", "* OK [UIDNEXT 6]", "f OK [READ-WRITE] SELECT")
	c.say("g login me feed", "g BAD LOGIN")
}

func TestEndsOfSessions(t *testing.T) {
	e := newsEngine(1000)
	for _, s := range someSays() {
		c := &client{t, e, s}
		c.say("a logout x", "a BAD LOGOUT")
		c.say("b capability", "* CAPABILITY IMAP4rev1", "b OK CAPABILITY")
		c.say("c logout", "* BYE", "c OK LOGOUT")
		if !sameAnswer(c.s, impl.Imap{}) {
			t.Errorf("behind LOGOUT the session is %s", told(c.s))
		}
		for _, text := range []string{"a noop", "a logout", "a login me feed", "", "\xff", strings.Repeat("x", 4000), strings.Repeat("x", 4001), fullText} {
			got, next, out, code := impl.ImapStep(c.e, c.s, text)
			if code != impl.ErrState || out != "" || !sameAnswer(got, c.e) || !sameAnswer(next, c.s) {
				t.Errorf("a closed session: %.60q gets %q, %d", text, out, code)
			}
		}
		checkStepCode(t, c.e, c.s, longText, impl.ErrLong)
	}
}

func TestLists(t *testing.T) {
	c := newClient(t, newsEngine(1000))
	all := []string{"* LIST () \"/\" news", "* LIST () \"/\" more", "* LIST () \"/\" none_yet"}
	for _, first := range []string{"\"\"", "x", "*", "news", "()", "{2}\r\n\r\n"} {
		c.say("a list "+first+" *", append(slices.Clone(all), "a OK LIST")...)
		c.say("a LIST "+first+" \"*\"", append(slices.Clone(all), "a OK LIST")...)
		c.say("b list "+first+" more", all[1], "b OK LIST")
		for _, name := range []string{"More", "mor", "more2", "%", "**", "\"\"", "no*", "INBOX", "(news)", "\"news \""} {
			c.say("c list "+first+" "+name, "c OK LIST")
		}
	}
	if empty := newClient(t, impl.Engine{Log: impl.Log{Room: 9}}); true {
		empty.say("a list x *", "a OK LIST")
		empty.say("b select news", "b NO SELECT")
		empty.say("c status news (messages)", "c NO STATUS")
	}
	// Updates come behind the boxes.
	c = newClient(t, newsEngine(5000), "s select news")
	c.commit(flagged("news", 2, 2, 8), flagged("news", 4, 2, 8), expunged("news"), lettered("news", "f", "g"))
	c.say("d list x none", "* 2 EXPUNGE", "* 3 EXPUNGE", "* 5 EXISTS", "d OK LIST")
	c.commit(lettered("news", "h"))
	c.say("e list x more", all[1], "* 6 EXISTS", "e OK LIST")
	c.say("f list x more", all[1], "f OK LIST")
	c.commit(lettered("news", "i"), lettered("more", "z"))
	c.say("g list x", "g BAD LIST")
	c.say("h capability", "* CAPABILITY IMAP4rev1", "h OK CAPABILITY")
	c.say("i noop x", "i BAD NOOP")
	c.say("j status more (messages)", "* STATUS more (MESSAGES 2)", "j OK STATUS")
	c.say("k noop", "* 7 EXISTS", "k OK NOOP")
	c.say("l noop", "l OK NOOP")
}

func TestSelects(t *testing.T) {
	flags := "* FLAGS (\\Seen \\Answered \\Flagged \\Deleted \\Draft)"
	news := []string{flags, "* 5 EXISTS", "* 0 RECENT", "* OK [UIDVALIDITY 1]", "* OK [UIDNEXT 6]"}
	more := []string{flags, "* 1 EXISTS", "* 0 RECENT", "* OK [UIDVALIDITY 2]", "* OK [UIDNEXT 3]"}
	none := []string{flags, "* 0 EXISTS", "* 0 RECENT", "* OK [UIDVALIDITY 3]", "* OK [UIDNEXT 1]"}
	c := newClient(t, newsEngine(5000))
	at := func(want impl.Imap) {
		t.Helper()
		if !sameAnswer(c.s, want) {
			t.Errorf("the session is %s, not %s", told(c.s), told(want))
		}
	}
	c.say("a select news", append(news, "a OK [READ-WRITE] SELECT")...)
	at(selectedOf("news", false, 1, 2, 3, 4, 5))
	c.say("b Examine more", append(more, "b OK [READ-ONLY] EXAMINE")...)
	at(selectedOf("more", true, 2))
	c.say("c select", "c BAD SELECT")
	c.say("c select news more", "c BAD SELECT")
	c.say("c examine", "c BAD EXAMINE")
	at(selectedOf("more", true, 2))
	c.say("d select \"none_yet\"", append(none, "d OK [READ-WRITE] SELECT")...)
	at(selectedOf("none_yet", false))
	c.say("e examine {4}\r\nnews", append(news, "e OK [READ-ONLY] EXAMINE")...)
	at(selectedOf("news", true, 1, 2, 3, 4, 5))
	for _, name := range []string{"None", "NEWS", "new", "news2", "\"\"", "*", "\"news \"", "(news)", "INBOX", "{5}\r\nnews\n"} {
		for _, verb := range []string{"select", "examine"} {
			c.say("f "+verb+" "+name, "f NO "+strings.ToUpper(verb))
			at(impl.Imap{State: impl.ImOpen})
			c.say("g fetch 1 flags", "g BAD FETCH")
			c.say("h close", "h BAD CLOSE")
			c.say("i select news", append(news, "i OK [READ-WRITE] SELECT")...)
		}
	}
	// Selected once more, all is new: what came is there, no update is told.
	c.commit(lettered("news", "f"), flagged("news", 1, 2, 8), expunged("news"))
	c.say("j select news", flags, "* 5 EXISTS", "* 0 RECENT", "* OK [UIDVALIDITY 1]", "* OK [UIDNEXT 7]", "j OK [READ-WRITE] SELECT")
	at(selectedOf("news", false, 2, 3, 4, 5, 6))
	c.say("k noop", "k OK NOOP")
	c.say("l select more", append(more, "l OK [READ-WRITE] SELECT")...)
	// Nothing of it is committed.
	if data := newsEngine(0).Log.Data; len(c.e.Log.Data) <= len(data) || len(c.e.Log.Data) != len(data)+len(logOf(0, lettered("news", "f"), flagged("news", 1, 2, 8), expunged("news")).Data) {
		t.Error("a SELECT wrote to the log")
	}
}

func TestStatuses(t *testing.T) {
	for _, lines := range [][]string{nil, {"s select news"}, {"s examine more"}} {
		c := newClient(t, newsEngine(1000), lines...)
		was := c.s
		c.say("a status news (messages recent uidnext uidvalidity unseen)", "* STATUS news (MESSAGES 5 RECENT 0 UIDNEXT 6 UIDVALIDITY 1 UNSEEN 4)", "a OK STATUS")
		c.say("b status more (UNSEEN)", "* STATUS more (UNSEEN 1)", "b OK STATUS")
		c.say("c STATUS none_yet (Messages UidNext Messages uIDvALIDITY)", "* STATUS none_yet (MESSAGES 0 UIDNEXT 1 MESSAGES 0 UIDVALIDITY 3)", "c OK STATUS")
		c.say("d status \"news\" \"(unseen)\"", "* STATUS news (UNSEEN 4)", "d OK STATUS")
		c.say("d status {4}\r\nnews {8}\r\n(unseen)", "* STATUS news (UNSEEN 4)", "d OK STATUS")
		c.say("e status news ("+strings.Repeat("recent ", 29)+"recent)", "* STATUS news ("+strings.Repeat("RECENT 0 ", 29)+"RECENT 0)", "e OK STATUS")
		for _, name := range []string{"none", "News", "\"\"", "*", "(news)"} {
			c.say("f status "+name+" (messages)", "f NO STATUS")
		}
		for _, list := range []string{"messages", "()", "( messages)", "(messages )", "(messages  unseen)", "((messages))", "(\"messages\")", "\"\"", "\"(\"", "\"messages)\"", "(" + strings.Repeat("recent ", 30) + "recent)"} {
			c.say("g status news "+list, "g BAD STATUS")
			// It is looked for ahead of the box.
			c.say("g status none "+list, "g BAD STATUS")
		}
		// The names are looked at behind the box.
		for _, list := range []string{"(none)", "(messages none)", "(none messages)", "(message)", "(messagess)", "(highestmodseq)", "(\\Seen)", "(*)", "(unseen,recent)"} {
			c.say("h status news "+list, "h BAD STATUS")
			c.say("i status none "+list, "i NO STATUS")
		}
		c.say("j status news", "j BAD STATUS")
		c.say("k status news (messages) x", "k BAD STATUS")
		c.say("l status news messages unseen", "l BAD STATUS")
		// What is flagged seen, by whom ever, is unseen no more; of what came the session is not told.
		c.commit(flagged("news", 1, 2, 1), flagged("news", 2, 1, 31), flagged("news", 3, 3, 1), expunged("news"))
		c.say("m status news (unseen messages uidnext)", "* STATUS news (UNSEEN 3 MESSAGES 4 UIDNEXT 6)", "m OK STATUS")
		if !sameAnswer(c.s, was) {
			t.Errorf("behind STATUS the session is %s, not %s", told(c.s), told(was))
		}
	}
}

func TestSetsOfFetches(t *testing.T) {
	e := newsEngine(5000)
	for _, readOnly := range []string{"select", "examine"} {
		c := newClient(t, e, "s "+readOnly+" news")
		c.commit(flagged("news", 2, 2, 8), expunged("news"), lettered("news", "f"))
		// 2 went, 6 came; the session was told of neither.
		for set, want := range map[string][]int{
			"1": {1}, "2": nil, "3": {3}, "5": {5}, "6": nil, "7": nil, "1000": nil, "4294967295": nil, "1:*": {1, 3, 4, 5}, "*:1": {1, 3, 4, 5}, "*": {5}, "*:*": {5}, "*:4": {4, 5}, "6:*": {5}, "*:4294967295": {5}, "4:2": {3, 4}, "2:4": {3, 4}, "2:2": nil, "1,1,1": {1}, "5,1": {1, 5}, "4:5,1:3": {1, 3, 4, 5}, "7:9": nil, "9:7,3": {3}, "1:4294967295": {1, 3, 4, 5},
		} {
			var lines, byUids []string
			for _, n := range want {
				lines = append(lines, fmt.Sprintf("* %d FETCH (UID %d)", n, n))
				byUids = append(byUids, fmt.Sprintf("* %d FETCH (UID %d RFC822.SIZE %d)", n, n, len(e.Boxes[0].Mails[n-1].Text)))
			}
			c.say("a fetch "+set+" uid", append(lines, "a OK FETCH")...)
			c.say("b uid fetch "+set+" (rfc822.size)", append(byUids, "b OK FETCH")...)
		}
		c.say("c noop", "* 2 EXPUNGE", "* 5 EXISTS", "c OK NOOP")
		// Numbers are others than uids now.
		c.say("d fetch 2:3,* (uid)", "* 2 FETCH (UID 3)", "* 3 FETCH (UID 4)", "* 5 FETCH (UID 6)", "d OK FETCH")
		c.say("e uid fetch 2:3,* (flags uid)", "* 2 FETCH (FLAGS (\\Seen \\Flagged) UID 3)", "* 5 FETCH (FLAGS () UID 6)", "e OK FETCH")
		c.say("f fetch 6:* uid", "* 5 FETCH (UID 6)", "f OK FETCH")
		c.say("g uid fetch 7:* uid", "* 5 FETCH (UID 6)", "g OK FETCH")
		c.say("h uid fetch 5 flags", "* 4 FETCH (UID 5 FLAGS ())", "h OK FETCH")
		c.say("i fetch 6 uid", "i OK FETCH")
		for _, set := range []string{"0", "\"\"", "x", "1:", ":1", "1,", "1:2:3", "01", "-1", "4294967296", "1.5", "(1)", "\"1 2\"", "*1", "**", "1;2", strings.Repeat("1,", 50) + "1"} {
			c.say("j fetch "+set+" flags", "j BAD FETCH")
			c.say("k uid fetch "+set+" flags", "k BAD UID")
			c.say("l store "+set+" flags ()", "l BAD STORE")
			c.say("m uid store "+set+" flags ()", "m BAD UID")
		}
		c.say("n fetch "+strings.Repeat("9,", 49)+"1 uid", "* 1 FETCH (UID 1)", "n OK FETCH")
	}
	// In a box of none there is no last one.
	c := newClient(t, e, "s select none_yet")
	for _, line := range []string{"fetch * flags", "fetch 1:* body[]", "store * flags ()", "uid fetch * flags", "uid fetch 1:* body[]", "uid store *:1 +flags (\\Seen)"} {
		name := strings.ToUpper(strings.Fields(strings.TrimPrefix(line, "uid "))[0])
		c.say("a "+line, "a OK "+name)
	}
	c.say("b search all", "* SEARCH", "b OK SEARCH")
	c.commit(lettered("none_yet", "x"))
	c.say("c fetch * uid", "c OK FETCH")
	c.say("d search 1:*", "* SEARCH", "d OK SEARCH")
	c.say("e noop", "* 1 EXISTS", "e OK NOOP")
	c.say("f fetch *:9 uid", "* 1 FETCH (UID 1)", "f OK FETCH")
	// All that a session knew went.
	c.commit(flagged("none_yet", 1, 2, 8), expunged("none_yet"))
	c.say("g uid fetch 1:* body[]", "g OK FETCH")
	c.say("h store 1:* flags (\\Seen)", "h OK STORE")
	c.say("i search all", "* SEARCH", "i OK SEARCH")
	c.say("j noop", "* 1 EXPUNGE", "j OK NOOP")
}

func TestItemsOfFetches(t *testing.T) {
	c := newClient(t, newsEngine(5000), "s examine news")
	size := len(c.e.Boxes[0].Mails[0].Text)
	c.say("a fetch 1 (flags)", "* 1 FETCH (FLAGS ())", "a OK FETCH")
	c.say("b fetch 1 \"flags\"", "* 1 FETCH (FLAGS ())", "b OK FETCH")
	c.say("c fetch 1 \"(flags uid)\"", "* 1 FETCH (FLAGS () UID 1)", "c OK FETCH")
	c.say("d fetch 1 {11}\r\nrfc822.size", fmt.Sprintf("* 1 FETCH (RFC822.SIZE %d)", size), "d OK FETCH")
	c.say("e uid fetch 1 (uid flags uid)", "* 1 FETCH (UID 1 FLAGS () UID 1)", "e OK FETCH")
	for _, word := range []string{"none", "()", "( flags)", "(flags )", "(flags  uid)", "((flags))", "(flags none)", "(none flags)", "\"flags uid\"", "\"\"", "(flags (uid))", "(\"flags\")", "all", "(all)", "body", "body.peek", "body[x]", "body[1]", "body[header.fields]", "(body[text] body[x])", "body[]<0.1>", "\\Flags", "\"(\"", "\"(flags\"", "\"flags)\"", "(" + strings.Repeat("uid ", 30) + "uid)"} {
		for _, set := range []string{"1", "9", "1:*"} {
			c.say("f fetch "+set+" "+word, "f BAD FETCH")
			c.say("g uid fetch "+set+" "+word, "g BAD UID")
		}
	}
	c.say("h fetch 1 flags uid", "h BAD FETCH")
	c.say("i uid fetch 1 flags uid", "i BAD UID")
	c.say("j fetch 1 ("+strings.Repeat("uid ", 29)+"uid)", "* 1 FETCH ("+strings.Repeat("UID 1 ", 29)+"UID 1)", "j OK FETCH")
	// Set and items are looked at together, whichever is wrong.
	c.say("k fetch x none", "k BAD FETCH")
	c.say("l uid fetch x none", "l BAD UID")
}

// A mail whose Text has no part is told without one alone; nothing is said or done if another one is asked for a part beside it.
func TestFetchesOfNoMails(t *testing.T) {
	list := append(newsMutations(), added("news", "x"))
	for _, verb := range []string{"select", "examine"} {
		c := newClient(t, engineOf(impl.MaxRoom, list...), "s "+verb+" news")
		before := c.e.Log.Data
		for _, item := range []string{"body[]", "body[text]", "BODY.PEEK[header]", "(flags body[] uid)"} {
			for _, set := range []string{"6", "1:*", "1,6", "*"} {
				c.say("a fetch "+set+" "+item, "a BAD FETCH")
				c.say("b uid fetch "+set+" "+item, "b BAD UID")
			}
		}
		if c.e.Log.Data != before {
			t.Error("a FETCH that is BAD was committed")
		}
		c.say("c fetch 6 (flags rfc822.size)", "* 6 FETCH (FLAGS () RFC822.SIZE 9)", "c OK FETCH")
		c.say("d uid search text \"of x\"", "* SEARCH 6", "d OK SEARCH")
		c.ask("e fetch 1:5 body[text]")
	}
}

// bodiesTold is the octets that an answer tells, by their numbers: what stands between them is looked at as well.
func bodiesTold(t *testing.T, said string) [][2]string {
	t.Helper()
	var list [][2]string
	for {
		at := octetsFinder.FindStringSubmatchIndex(said)
		if at == nil {
			return list
		}
		part, behind := said[at[2]:at[3]], said[at[1]:]
		size, _ := strconv.Atoi(said[at[4]:at[5]])
		if size > len(behind) || size+1 > len(behind) || behind[size] != ' ' && behind[size] != ')' {
			t.Fatalf("%d bytes are told, and then %.100q", size, behind[min(size, len(behind)):])
		}
		list = append(list, [2]string{part, behind[:size]})
		said = behind[size:]
	}
}

// trickyMails is texts that look like what a session says, and others.
func trickyMails() []string {
	return []string{
		"\r\n", "\r\n\r\n", "\r\n)\r\n", "X: y\r\n\r\n", "X: y\r\n\r\nbody\r\n", "X: a\r\n b\r\n\r\n\r\n\r\n", "X: {3}\r\n\r\n{3}\r\nabc\r\n", "X: BODY[] {5}\r\n\r\n BODY[TEXT] {2}\r\n)\r\n", "X: y\r\n\r\na OK FETCH\r\n* 2 FETCH (FLAGS ())\r\n", "X: \"\r\n\r\n\\\"(\r\n", mailText(plainEntry, "news"), mailOfBytes(4000), "X: y\r\n\r\n" + strings.Repeat("\x01\x7f", 400) + "\r\n",
	}
}

func TestFetchedOctets(t *testing.T) {
	m := impl.Mutation{Kind: impl.MuAdd, Box: "news"}
	for i, text := range trickyMails() {
		m.Items = append(m.Items, impl.Item{Key: fmt.Sprint(i), Text: text})
	}
	e := engineOf(impl.MaxRoom, madeBox("news"), lettered("news", "gone", "a"), flagged("news", 1, 1, 8), expunged("news"), m)
	parts := []string{"", "HEADER", "TEXT"}
	for _, verb := range []string{"select", "examine"} {
		for _, item := range []string{"body", "BODY.PEEK"} {
			c := newClient(t, e, "s "+verb+" news")
			for i, x := range c.e.Boxes[0].Mails {
				for _, line := range []string{fmt.Sprintf("a fetch %d", i+1), fmt.Sprintf("a uid fetch %d", x.Uid)} {
					for _, part := range parts {
						want, _ := impl.MailPart(x.Text, part)
						asked := item + "[" + strings.ToLower(part) + "]"
						for _, items := range []string{asked, "(" + asked + ")", "(flags " + asked + " rfc822.size)", "(" + asked + " uid " + asked + ")", "(" + asked + " body.peek[] body.peek[header] body.peek[text])"} {
							told := bodiesTold(t, c.ask(line+" "+items))
							if len(told) < 1 || told[0] != [2]string{part, want} {
								t.Errorf("%q told %.200q, not %.200q", line+" "+items, told, want)
							}
							for _, body := range told {
								if octets, _ := impl.MailPart(x.Text, body[0]); octets != body[1] {
									t.Errorf("%q told %.200q, not %.200q", line+" "+items, body, octets)
								}
							}
						}
					}
				}
			}
			// All of them at once, with all parts: the header and the text are the whole.
			told := bodiesTold(t, c.ask("b fetch 1:* ("+item+"[] uid "+item+"[header] "+item+"[text])"))
			if len(told) != 3*len(c.e.Boxes[0].Mails) {
				t.Fatalf("%d bodies are told", len(told))
			}
			for i, x := range c.e.Boxes[0].Mails {
				if told[3*i][1] != x.Text || told[3*i+1][1]+told[3*i+2][1] != x.Text || !slices.Equal([]string{told[3*i][0], told[3*i+1][0], told[3*i+2][0]}, parts) {
					t.Errorf("of %.200q is told %.200q", x.Text, told[3*i:3*i+3])
				}
			}
		}
	}
}

func TestMailsThatAreSeen(t *testing.T) {
	e := newsEngine(5000)
	body, _ := impl.MailPart(e.Boxes[0].Mails[0].Text, "TEXT")
	said := fmt.Sprintf("BODY[TEXT] {%d}\r\n%s", len(body), body)
	c := newClient(t, e, "s select news")
	seen := func(want ...int) {
		t.Helper()
		var list []int
		for _, m := range c.e.Boxes[0].Mails {
			if m.Flags%2 == 1 {
				list = append(list, m.Uid)
			}
		}
		if !slices.Equal(list, want) {
			t.Errorf("%d are seen, not %d", list, want)
		}
	}
	c.say("a fetch 1 (flags body.peek[text] flags)", "* 1 FETCH (FLAGS () "+said+" FLAGS ())", "a OK FETCH")
	seen(3)
	c.say("b fetch 1 (flags body[text] flags)", "* 1 FETCH (FLAGS (\\Seen) "+said+" FLAGS (\\Seen))", "b OK FETCH")
	seen(1, 3)
	record := logOf(0, flagged("news", 1, impl.MoAdd, impl.FlSeen)).Data
	if c.e.Log.Data != e.Log.Data+record {
		t.Errorf("the log goes on with %q, not %q", c.e.Log.Data[len(e.Log.Data):], record)
	}
	// One that is seen is so already.
	c.say("c fetch 1 (body[text] flags)", "* 1 FETCH ("+said+" FLAGS (\\Seen))", "c OK FETCH")
	c.ask("d uid fetch 1,3 body[]")
	if c.e.Log.Data != e.Log.Data+record {
		t.Error("one that is seen was committed")
	}
	c.ask("e uid fetch 4:* (uid body[header])")
	seen(1, 3, 4, 5)
	c.ask("f fetch 9 body[]")
	c.ask("f fetch 2 none")
	c.ask("f fetch 2 (body[] none)")
	c.ask("f fetch x body[]")
	c.ask("f fetch 2 body.peek[]")
	c.ask("f fetch 2 (flags uid rfc822.size)")
	seen(1, 3, 4, 5)
	c.ask("g fetch 1:* (body.peek[] body[] body.peek[])")
	seen(1, 2, 3, 4, 5)
	// A session that may not write sees nothing; the mails keep their other flags in one that may.
	c = newClient(t, e, "s examine news")
	c.say("h fetch 1 (flags body[text] flags)", "* 1 FETCH (FLAGS () "+said+" FLAGS ())", "h OK FETCH")
	c.ask("i uid fetch 1:* (body[] body[header])")
	seen(3)
	if !sameAnswer(c.e, e) {
		t.Error("a session that may not write changed something")
	}
	c = newClient(t, e, "s select news")
	c.commit(flagged("news", 1, 1, 30))
	c.say("j fetch 1 (body[text] flags)", "* 1 FETCH ("+said+" FLAGS (\\Seen \\Answered \\Flagged \\Deleted \\Draft))", "j OK FETCH")
}

func TestStores(t *testing.T) {
	e := newsEngine(5000)
	for _, x := range []struct {
		line string
		said []string
		mode int
	}{
		{"store 3 flags (\\Draft)", []string{"* 3 FETCH (FLAGS (\\Draft))", "a OK STORE"}, impl.MoSet},
		{"store 3 FLAGS (\\Draft)", []string{"* 3 FETCH (FLAGS (\\Draft))", "a OK STORE"}, impl.MoSet},
		{"store 3 +Flags (\\DRAFT)", []string{"* 3 FETCH (FLAGS (\\Seen \\Flagged \\Draft))", "a OK STORE"}, impl.MoAdd},
		{"store 3 -fLAGS (\\flagged \\Draft)", []string{"* 3 FETCH (FLAGS (\\Seen))", "a OK STORE"}, impl.MoLess},
		{"store 3 flags ()", []string{"* 3 FETCH (FLAGS ())", "a OK STORE"}, impl.MoSet},
		{"store 3 +flags ()", []string{"* 3 FETCH (FLAGS (\\Seen \\Flagged))", "a OK STORE"}, impl.MoAdd},
		{"store 3 -flags ()", []string{"* 3 FETCH (FLAGS (\\Seen \\Flagged))", "a OK STORE"}, impl.MoLess},
		{"store 3 flags.silent (\\Draft)", []string{"a OK STORE"}, impl.MoSet},
		{"store 3 +FLAGS.Silent (\\Draft)", []string{"a OK STORE"}, impl.MoAdd},
		{"store 3 -Flags.SILENT (\\Seen)", []string{"a OK STORE"}, impl.MoLess},
		{"store \"3\" \"flags\" \"(\\\\Draft)\"", []string{"* 3 FETCH (FLAGS (\\Draft))", "a OK STORE"}, impl.MoSet},
	} {
		for _, uid := range []string{"", "uid "} {
			c := newClient(t, e, "s select news")
			want := slices.Clone(x.said)
			if uid != "" && len(want) == 2 {
				want[0] = strings.Replace(want[0], "(FLAGS", "(UID 3 FLAGS", 1)
			}
			c.say("a "+uid+x.line, want...)
			flags, _ := impl.ReadFlags("(" + strings.TrimSuffix(strings.SplitN(strings.ReplaceAll(x.line, "\\\\", "\\"), "(", 2)[1], "\""))
			if record := logOf(0, flagged("news", 3, x.mode, flags)).Data; c.e.Log.Data != e.Log.Data+record {
				t.Errorf("behind %q the log goes on with %q, not %q", x.line, c.e.Log.Data[len(e.Log.Data):], record)
			}
		}
	}
	c := newClient(t, e, "s select news")
	c.say("a store 4:2 +flags (\\Seen)", "* 2 FETCH (FLAGS (\\Seen))", "* 3 FETCH (FLAGS (\\Seen \\Flagged))", "* 4 FETCH (FLAGS (\\Seen))", "a OK STORE")
	c.say("b uid store *,1 flags (\\Answered)", "* 1 FETCH (UID 1 FLAGS (\\Answered))", "* 5 FETCH (UID 5 FLAGS (\\Answered))", "b OK STORE")
	c.say("c store 9 flags (\\Seen)", "c OK STORE")
	c.say("d uid store 9:8 flags.silent (\\Seen)", "d OK STORE")
	// Each mail of the set is committed, what it had or not.
	c.say("e store 1 flags (\\Answered)", "* 1 FETCH (FLAGS (\\Answered))", "e OK STORE")
	if want := e.Log.Data + logOf(0, flagged("news", 2, 2, 1), flagged("news", 3, 2, 1), flagged("news", 4, 2, 1), flagged("news", 1, 1, 2), flagged("news", 5, 1, 2), flagged("news", 1, 1, 2)).Data; c.e.Log.Data != want {
		t.Errorf("the log goes on with %q", c.e.Log.Data[len(e.Log.Data):])
	}
	// Numbers are others than uids behind one that went.
	c.commit(flagged("news", 1, 2, 8), expunged("news"))
	c.say("f store 1:2 flags (\\Draft)", "* 2 FETCH (FLAGS (\\Draft))", "f OK STORE")
	c.say("g noop", "* 1 EXPUNGE", "g OK NOOP")
	c.say("h store 2 flags (\\Flagged)", "* 2 FETCH (FLAGS (\\Flagged))", "h OK STORE")
	c.say("i uid store 2 flags (\\Seen)", "* 1 FETCH (UID 2 FLAGS (\\Seen))", "i OK STORE")
	if b := c.e.Boxes[0]; b.Mails[0].Flags != 1 || b.Mails[1].Flags != 4 {
		t.Errorf("the box is %s", told(b))
	}
}

func TestStoresThatAreNone(t *testing.T) {
	e := newsEngine(5000)
	for _, verb := range []string{"select", "examine"} {
		c := newClient(t, e, "s "+verb+" news")
		for _, words := range []string{
			"1 flag (\\Seen)", "1 flagss (\\Seen)", "1 ++flags (\\Seen)", "1 *flags (\\Seen)", "1 + (\\Seen)", "1 .silent (\\Seen)", "1 flags.silen (\\Seen)", "1 flags.silent.silent (\\Seen)", "1 flagssilent (\\Seen)", "1 flags. (\\Seen)", "1 \"flags \" (\\Seen)", "1 \"+ flags\" (\\Seen)", "1 \"\" (\\Seen)", "1 flags.quiet (\\Seen)", "1 (flags) (\\Seen)", "1 {6}\r\nflag\xc5\xbf (\\Seen)",
			"1 flags \\Seen", "1 flags (Seen)", "1 flags (\\None)", "1 flags (\\Recent)", "1 flags (\\Seen  \\Draft)", "1 flags ( )", "1 flags \"\"", "1 flags (\\Seen,\\Draft)", "1 flags (\\Seen \\None)", "1 flags (\\*)", "1 flags ((\\Seen))", "1 flags \"(\"", "1 flags \"(\\\\Seen\"",
			"x flags (\\Seen)", "0 flags (\\Seen)", "9 flag (\\Seen)", "9 flags (\\None)", "x flag none",
			"1 flags", "1", "1 flags (\\Seen) x", "1 flags (\\Seen) (\\Draft)", "1 flags \\Seen \\Draft",
		} {
			c.say("a store "+words, "a BAD STORE")
			c.say("b uid store "+words, "b BAD UID")
		}
		if !sameAnswer(c.e, e) {
			t.Error("a STORE that is BAD was committed")
		}
	}
	// A session that may not write is refused whatever is there.
	c := newClient(t, e, "s examine news")
	for _, words := range []string{"1 flags (\\Seen)", "1 +flags.silent ()", "1:* -flags (\\Seen)", "9 flags (\\Seen)"} {
		c.say("a store "+words, "a NO STORE")
		c.say("b uid store "+words, "b NO STORE")
	}
	if !sameAnswer(c.e, e) {
		t.Error("a STORE that was refused was committed")
	}
}

func TestSearchesOfSessions(t *testing.T) {
	e := newsEngine(5000)
	for _, verb := range []string{"select", "examine"} {
		c := newClient(t, e, "s "+verb+" news")
		c.commit(flagged("news", 2, 2, 8), expunged("news"), flagged("news", 4, 2, 9), lettered("news", "f"))
		for keys, want := range map[string]string{
			"all": " 1 3 4 5", "ALL all": " 1 3 4 5", "seen": " 3 4", "unseen": " 1 5", "deleted": " 4", "undeleted": " 1 3 5", "flagged": " 3", "not flagged": " 1 4 5", "draft": "", "answered": "", "seen undeleted": " 3", "not not seen": " 3 4",
			"1:*": " 1 3 4 5", "*": " 5", "2": "", "2:3": " 3", "5:9": " 5", "9:5": " 5", "6:*": " 5", "7": "", "not 3": " 1 4 5", "1,4": " 1 4", "uid 1:*": " 1 3 4 5", "uid *": " 5", "uid 6": "", "uid 7:*": " 5", "not uid 4:3": " 1 5", "1:4 uid 3:9": " 3 4",
			"subject \"TITLE OF c\"": " 3", "from \u00e4": "", "from {2}\r\n\u00e4": " 1 3 4 5", "text \"text of\"": "", "text {5}\r\n\nof e": " 5", "text \"of d\"": " 4", "subject \"\"": " 1 3 4 5", "text none": "",
		} {
			if keys == "from \u00e4" {
				c.say("a search "+keys, "* BAD")
				continue
			}
			c.say("a search "+keys, "* SEARCH"+want, "a OK SEARCH")
			c.say("b uid search "+keys, "* SEARCH"+want, "b OK SEARCH")
		}
		c.say("c noop", "* 2 EXPUNGE", "* 5 EXISTS", "c OK NOOP")
		// What is told by uids is told of the same mails, whose numbers are others now; a key of numbers asks for numbers still.
		for keys, want := range map[string][2]string{"all": {" 1 2 3 4 5", " 1 3 4 5 6"}, "seen": {" 2 3", " 3 4"}, "2": {" 2", " 3"}, "2,*": {" 2 5", " 3 6"}, "6": {"", ""}, "uid 2": {"", ""}, "uid 3": {" 2", " 3"}, "uid *": {" 5", " 6"}, "not 1:3": {" 4 5", " 5 6"}, "uid 6:9 5": {" 5", " 6"}} {
			c.say("d search "+keys, "* SEARCH"+want[0], "d OK SEARCH")
			c.say("e uid search "+keys, "* SEARCH"+want[1], "e OK SEARCH")
		}
		for _, keys := range []string{"", " none", " not", " subject", " uid", " uid x", " 0", " \"\"", " (all)", " all none", " seen uid", " 1 2 x", strings.Repeat(" all", 21)} {
			c.say("f search"+keys, "f BAD SEARCH")
			c.say("g uid search"+keys, "g BAD UID")
		}
		c.say("h search"+strings.Repeat(" all", 20), "* SEARCH 1 2 3 4 5", "h OK SEARCH")
	}
}

func TestExpunges(t *testing.T) {
	e := newsEngine(5000)
	c := newClient(t, e, "s select news")
	// Without one that is deleted nothing is committed.
	c.say("a expunge", "a OK EXPUNGE")
	if !sameAnswer(c.e, e) {
		t.Error("an EXPUNGE of nothing was committed")
	}
	c.ask("b store 1,3:4 +flags.silent (\\Deleted)")
	before := c.e.Log.Data
	c.say("c expunge x", "c BAD EXPUNGE")
	c.say("d expunge", "* 1 EXPUNGE", "* 2 EXPUNGE", "* 2 EXPUNGE", "d OK EXPUNGE")
	if c.e.Log.Data != before+logOf(0, expunged("news")).Data || !sameAnswer(c.s, selectedOf("news", false, 2, 5)) {
		t.Errorf("behind EXPUNGE the session is %s, the log %s", told(c.s), told(c.e.Log))
	}
	c.say("e fetch 1:* uid", "* 1 FETCH (UID 2)", "* 2 FETCH (UID 5)", "e OK FETCH")
	// What others did is told with it.
	c.commit(flagged("news", 2, 2, 8), expunged("news"), lettered("news", "f"), flagged("news", 6, 2, 8), lettered("news", "g"))
	c.say("f expunge", "* 1 EXPUNGE", "* 2 EXISTS", "f OK EXPUNGE")
	c.say("g uid fetch 1:* uid", "* 1 FETCH (UID 5)", "* 2 FETCH (UID 7)", "g OK FETCH")
	c.commit(lettered("news", "h"))
	c.say("h expunge", "* 3 EXISTS", "h OK EXPUNGE")
	// One of which the session was not told goes as well.
	c.commit(lettered("news", "i"), flagged("news", 9, 2, 8))
	c.say("i expunge", "i OK EXPUNGE")
	// A mail in another box stays.
	c.commit(flagged("more", 2, 2, 8))
	c.say("j expunge", "j OK EXPUNGE")
	if len(c.e.Boxes[1].Mails) != 1 {
		t.Error("an EXPUNGE reached another box")
	}
	// A session that may not write is refused, with mails that are deleted and without; it is told nothing.
	for _, list := range [][]impl.Mutation{nil, {flagged("news", 2, 2, 8)}, {flagged("news", 2, 2, 8), expunged("news"), lettered("news", "f")}} {
		c = newClient(t, e, "s examine news")
		c.commit(list...)
		was := c.e
		c.say("k expunge", "k NO EXPUNGE")
		c.say("l expunge x", "l BAD EXPUNGE")
		if !sameAnswer(c.e, was) || !sameAnswer(c.s, selectedOf("news", true, 1, 2, 3, 4, 5)) {
			t.Error("an EXPUNGE that was refused did something")
		}
	}
}

func TestCloses(t *testing.T) {
	e := newsEngine(5000)
	for _, verb := range []string{"select", "examine"} {
		for _, list := range [][]impl.Mutation{nil, {flagged("news", 2, 2, 8), flagged("news", 4, 2, 9)}, {flagged("news", 2, 2, 8), expunged("news"), lettered("news", "f")}, {lettered("news", "f"), flagged("news", 6, 2, 8)}} {
			c := newClient(t, e, "s "+verb+" news")
			c.commit(list...)
			deleted, _ := impl.CountFlag(c.e.Boxes[0], impl.FlDeleted)
			was := c.e
			c.say("a close x", "a BAD CLOSE")
			c.say("b close", "b OK CLOSE")
			want := was.Log.Data
			if verb == "select" && deleted > 0 {
				want += logOf(0, expunged("news")).Data
			}
			if c.e.Log.Data != want || !sameAnswer(c.s, impl.Imap{State: impl.ImOpen}) {
				t.Errorf("behind CLOSE of %s the session is %s, the log %s", verb, told(c.s), told(c.e.Log))
			}
			left := len(was.Boxes[0].Mails)
			if verb == "select" {
				left -= deleted
			}
			if len(c.e.Boxes[0].Mails) != left {
				t.Errorf("behind CLOSE of %s there are %d mails, not %d", verb, len(c.e.Boxes[0].Mails), left)
			}
			c.say("c close", "c BAD CLOSE")
			c.say("d noop", "d OK NOOP")
			c.say("e fetch 1 flags", "e BAD FETCH")
		}
	}
	// What a CLOSE took away a session beside it is told.
	c := newClient(t, e, "s select news")
	other := newClient(t, e, "s examine news")
	c.ask("a store 1,5 +flags.silent (\\Deleted)")
	c.say("b close", "b OK CLOSE")
	other.e = c.e
	other.say("c noop", "* 1 EXPUNGE", "* 4 EXPUNGE", "c OK NOOP")
}

// The log has room for so many records of flags, and no more.
func TestCommitsWithoutRoom(t *testing.T) {
	size := len(logOf(0, flagged("news", 1, 1, 1)).Data)
	for n := range 6 {
		for _, lacks := range []int{0, 1} {
			behind := n*size - lacks
			room := n
			if lacks > 0 {
				room--
			}
			if behind < 0 {
				continue
			}
			e := newsEngine(behind)
			checkRoomOfStores(t, e, room)
			checkRoomOfFetches(t, e, room)
		}
	}
}

func checkRoomOfStores(t *testing.T, e impl.Engine, room int) {
	t.Helper()
	for _, uid := range []string{"", "uid "} {
		for _, way := range []string{"flags", "-flags.silent", "+flags"} {
			c := newClient(t, e, "s select news")
			var want []string
			for n := 1; n <= min(room, 5); n++ {
				flags, _ := flagsText(map[string]int{"flags": 16, "+flags": 16 | c.e.Boxes[0].Mails[n-1].Flags}[way])
				switch {
				case way == "-flags.silent":
				case uid != "":
					want = append(want, fmt.Sprintf("* %d FETCH (UID %d FLAGS %s)", n, n, flags))
				default:
					want = append(want, fmt.Sprintf("* %d FETCH (FLAGS %s)", n, flags))
				}
			}
			end := "a NO STORE"
			if room >= 5 {
				end = "a OK STORE"
			}
			c.say("a "+uid+"store 1:* "+way+" (\\Draft)", append(want, end)...)
			if records, _ := readLogged(c.e); records != len(newsMutations())+min(room, 5) {
				t.Errorf("with room for %d the log has %d records", room, records)
			}
			if !sameAnswer(c.s, selectedOf("news", false, 1, 2, 3, 4, 5)) {
				t.Errorf("the session is %s", told(c.s))
			}
		}
	}
}

func readLogged(e impl.Engine) (int, int) {
	records, _, code := impl.LogRecords(e.Log)
	return len(records), code
}

func checkRoomOfFetches(t *testing.T, e impl.Engine, room int) {
	t.Helper()
	for _, uid := range []string{"", "uid "} {
		c := newClient(t, e, "s select news")
		said := c.ask("a " + uid + "fetch 1:* (flags body[text])")
		// The third is seen already, and needs no room.
		told := min(room, 4)
		if room >= 2 {
			told++
		}
		end := "a NO FETCH\r\n"
		if room >= 4 {
			end = "a OK FETCH\r\n"
		}
		if strings.Count(said, "* ") != told || strings.Count(said, "\\Seen") != told || !strings.HasSuffix(said, end) {
			t.Errorf("with room for %d %q is said", room, said)
		}
		if len(bodiesTold(t, said)) != told {
			t.Errorf("with room for %d the bodies are %q", room, said)
		}
		if count, _ := impl.CountFlag(c.e.Boxes[0], impl.FlSeen); count != min(room, 4)+1 {
			t.Errorf("with room for %d %d are seen", room, count)
		}
		// What needs no room is told still.
		c.ask("b " + uid + "fetch 1:* (flags body.peek[text])")
		c.ask("c " + uid + "fetch 3 body[]")
		c.ask("d noop")
	}
}

func TestExpungesWithoutRoom(t *testing.T) {
	size := len(logOf(0, expunged("news")).Data)
	list := append(newsMutations(), flagged("news", 2, 1, 8))
	need := len(logOf(0, list...).Data)
	for behind := range size + 2 {
		e := engineOf(need+behind, list...)
		ok := behind >= size
		c := newClient(t, e, "s select news")
		if ok {
			c.say("a expunge", "* 2 EXPUNGE", "a OK EXPUNGE")
		} else {
			c.say("a expunge", "a NO EXPUNGE")
			c.say("b close", "b NO CLOSE")
			// The box is selected still.
			c.say("c fetch 2 flags", "* 2 FETCH (FLAGS (\\Deleted))", "c OK FETCH")
			if !sameAnswer(c.s, selectedOf("news", false, 1, 2, 3, 4, 5)) || !sameAnswer(c.e, e) {
				t.Errorf("behind what was refused the session is %s", told(c.s))
			}
		}
		c = newClient(t, e, "s select news")
		c.say("d close", map[bool]string{true: "d OK CLOSE", false: "d NO CLOSE"}[ok])
		// Those that need no room are done.
		c = newClient(t, e, "s examine news")
		c.say("e expunge", "e NO EXPUNGE")
		c.say("f close", "f OK CLOSE")
		c.ask("g select more")
		c.say("h expunge", "h OK EXPUNGE")
		c.say("i close", "i OK CLOSE")
	}
}
