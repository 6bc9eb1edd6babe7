package tests

import (
	"fmt"
	"math/rand"
	"slices"
	"strings"
	"testing"

	"loop.example/g00268/impl"
)

// imapTalk is a session of commands with plain, quoted and counted words, of lines of up to 500 characters, and of what is none; it flags, expunges and closes.
func imapTalk() []string {
	return []string{
		"a noop", "b login \"me\" feed", "", "c select {4}\r\nnews", "d fetch 1:* (flags uid)", "e uid fetch 2 body[text]", "f store {3}\r\n2:3 +flags.silent (\\Deleted)", "g search text {2}\r\n\r\n", "h search text \"" + strings.Repeat("x", 484) + "\"", "i search subject \"a \\\"b\\\\\"", "j x {0}\r\n {5}\r\n{2}\r\n (a (b) c)", "\r", "k\nnoop", "l noop\r", "m expunge", "{1}\r\n\r", "n status news (messages unseen)", strings.Repeat("o", 500), "p examine more", "q fetch * body[header]", "r close", "s select news", "t store 1 flags (\\Seen \\Deleted)", "u close", "v list \"\" *",
	}
}

// newsTalk is a session of lines of up to 500 characters, and of what is none.
func newsTalk() []string {
	return []string{
		"capabilities", "", "GROUP news", "  article   2 ", "next", "over 1-", "mode reader", strings.Repeat(" ", 500), strings.Repeat("x", 500), "stat" + strings.Repeat(" ", 495) + "4", "\r", "\n", "stat\r", "stat\n", "sta\x1ft", "st\x7fat", "n\u00e4xt", "listgroup more", "stat {2}", "{2}", "head", ".", "body 2", "list", "last", "group none_yet", "stat",
	}
}

// talkText is the bytes of lines.
func talkText(lines ...string) string { return strings.Join(append(slices.Clone(lines), ""), "\r\n") }

// cutAt is a text in pieces, cut at these places, which rise.
func cutAt(text string, places ...int) []string {
	var pieces []string
	from := 0
	for _, place := range append(places, len(text)) {
		pieces = append(pieces, text[from:place])
		from = place
	}
	return pieces
}

func chunksOf(text string, size int) []string {
	var pieces []string
	for piece := range slices.Chunk([]byte(text), size) {
		pieces = append(pieces, string(piece))
	}
	return pieces
}

// talked is all that is said to pieces that come at one connection, put together, and the world then. What comes behind the end of the session is not done.
func talked(t *testing.T, w impl.World, conn int, pieces []string) (impl.World, string) {
	t.Helper()
	all := ""
	for _, piece := range pieces {
		open := w.Conns[conn].Kind != 0
		next, tell, code := impl.WorldStep(w, impl.Event{Kind: impl.GwBytes, Conn: conn, Data: piece})
		if open && tell.Code != impl.OK || !open && tell.Code != impl.ErrState || tell.Conn != conn || code != impl.OK {
			t.Fatalf("of %.100q is told %s, %d", piece, told(tell), code)
		}
		w, all = next, all+tell.Text
	}
	return w, all
}

// timesSaid is how often a line is among what was said.
func timesSaid(said, line string) int {
	return len(slices.DeleteFunc(strings.Split(said, "\r\n"), func(other string) bool { return other != line }))
}

// checkTalk asks that what is said and done is the same, however a text falls into pieces: in one, cut at every place from one on, byte by byte, in pieces of one size, and in ones that are made.
func checkTalk(t *testing.T, w impl.World, conn int, text string, from int) (impl.World, string) {
	t.Helper()
	if len(text) > impl.MaxCommand {
		t.Fatal("the text is no one piece")
	}
	want, said := talked(t, w, conn, []string{text})
	next, tell, _ := checkWorldStep(t, w, impl.Event{Kind: impl.GwBytes, Conn: conn, Data: text})
	if !sameAnswer(next, want) || tell.Text != said {
		t.Errorf("the same text says %.100q and %.100q", said, tell.Text)
	}
	check := func(pieces []string) {
		t.Helper()
		if next, other := talked(t, w, conn, pieces); other != said || !sameAnswer(next, want) {
			t.Fatalf("in %d pieces, the first of %d bytes, is said %.400q, not %.400q, and the world is %s, not %s", len(pieces), len(pieces[0]), other, said, told(next), told(want))
		}
	}
	for place := from; place <= len(text); place++ {
		check(cutAt(text, place))
	}
	for _, size := range []int{1, 2, 3, 7, 20, 64, 499, 501, 502, 503} {
		check(chunksOf(text, size))
	}
	source := rand.New(rand.NewSource(int64(len(text))))
	for range 40 {
		var places []int
		for range 1 + source.Intn(12) {
			places = append(places, source.Intn(len(text)+1))
		}
		slices.Sort(places)
		check(cutAt(text, places...))
	}
	return want, said
}

func openWorld(t *testing.T, kind int) impl.World {
	g := newGate(t, newsEngine(3000))
	g.open(kind, 2)
	return g.w
}

func TestTalksInPieces(t *testing.T) {
	w := openWorld(t, impl.GwImap)
	for i, end := range []string{"w logout\r\nx noop\r\n", "", "w", "w noop\r", "w login {3}\r\nab", "w logout\r\n", "w logout\r\n\r"} {
		// The first of the ends is cut from the beginning on, the others around the end.
		text := talkText(imapTalk()...)
		next, said := checkTalk(t, w, 2, text+end, min(i, 1)*(len(text)-20))
		for _, line := range []string{"a OK NOOP", "b OK LOGIN", "c OK [READ-WRITE] SELECT", "d OK FETCH", "e OK FETCH", "f OK STORE", "g OK SEARCH", "h OK SEARCH", "i OK SEARCH", "j BAD X", "m OK EXPUNGE", "n OK STATUS", "p OK [READ-ONLY] EXAMINE", "q OK FETCH", "r OK CLOSE", "s OK [READ-WRITE] SELECT", "t OK STORE", "u OK CLOSE", "v OK LIST"} {
			if timesSaid(said, line) != 1 {
				t.Errorf("%q is not said once: %.2000q", line, said)
			}
		}
		if !slices.Equal(uidsOf(next.Engine.Boxes[0]), []int{4, 5}) || timesSaid(said, "* BAD") != 6 {
			t.Errorf("behind the session the box is %s, said is %.2000q", told(next.Engine.Boxes[0]), said)
		}
		if over := strings.Contains(end, "logout"); over != (next.Conns[2].Kind == 0) || over != strings.HasSuffix(said, "* BYE\r\nw OK LOGOUT\r\n") || !over && next.Conns[2].Buffer != end {
			t.Errorf("behind %q the connection is %s", end, told(next.Conns[2]))
		}
	}
	w = openWorld(t, impl.GwNntp)
	for i, end := range []string{"quit\r\nlist\r\n", "", "q", "quit\r", strings.Repeat("q", 500), strings.Repeat("q", 501), strings.Repeat("q", 500) + "\r", "quit\r\n", "quit\r\n\r", "quit\r\n" + strings.Repeat("x", 600)} {
		text := talkText(newsTalk()...)
		next, said := checkTalk(t, w, 2, text+end, min(i, 1)*(len(text)-20))
		for line, count := range map[string]int{"101 can": 1, "501 empty": 2, "211 5 1 5 news": 1, "201 no posting": 1, "500 unknown": 3, "501 bad line": 7, "501 no number": 1, "211 1 2 2 more": 1, "211 0 1 0 none_yet": 1, "420 no article": 1, "422 no last": 1, "215 groups": 1, "224 overview": 1} {
			if timesSaid(said, line) != count {
				t.Errorf("%q is said %d times: %.2000q", line, timesSaid(said, line), said)
			}
		}
		if over := strings.Contains(end, "quit\r\n"); over != (next.Conns[2].Kind == 0) || over != strings.HasSuffix(said, "\r\n205 bye\r\n") || !over && next.Conns[2].Buffer != end {
			t.Errorf("behind %q the connection is %s", end, told(next.Conns[2]))
		}
	}
}

// A command of many counted words has lines that are short, and may be too long all the same.
func TestLongCommandsInPieces(t *testing.T) {
	w := openWorld(t, impl.GwImap)
	for _, count := range []int{7, 8, 9} {
		text := "a login me feed\r\nb x" + strings.Repeat(" {450}\r\n"+strings.Repeat("w", 450), count) + "\r\nc no"
		var pieces [][]string
		for _, size := range []int{1, 2, 400, 1000, 3999, 4000} {
			pieces = append(pieces, chunksOf(text, size))
		}
		for place := max(0, len(text)-4000); place <= min(4000, len(text)); place++ {
			pieces = append(pieces, cutAt(text, place))
		}
		want := "a OK LOGIN\r\nb BAD X\r\n"
		if count == 9 {
			want = "a OK LOGIN\r\n* BYE too long\r\n"
		}
		for _, list := range pieces {
			next, said := talked(t, w, 2, list)
			if said != want || (next.Conns[2].Kind == 0) != (count == 9) || count < 9 && next.Conns[2].Buffer != "c no" {
				t.Errorf("%d words in %d pieces get %q, the connection is %s", count, len(list), said, told(next.Conns[2]))
			}
		}
	}
}

// Made sessions of both kinds, line by line as SayAll tells them, and in pieces.
func TestMadeTalksInPieces(t *testing.T) {
	for seed := range int64(40) {
		source := rand.New(rand.NewSource(seed))
		kind := 1 + int(seed%2)
		w := openWorld(t, kind)
		lines := []string{"l login me feed", "s select news"}
		if kind == impl.GwNntp {
			lines = []string{"group news"}
		}
		for range 25 {
			line := madeCommandLine(source)
			if kind == impl.GwNntp {
				line = madeLineOfNews(source)
			}
			if _, code := impl.SayAll([]string{line}, kind); code == impl.OK {
				lines = append(lines, line)
			}
		}
		sent, code := checkSent(t, lines, kind)
		if code != impl.OK || len(sent) != len(lines) {
			t.Fatalf("SayAll of %s, %d = %d of them, %d", told(lines), kind, len(sent), code)
		}
		next, said := talked(t, w, 2, sent)
		want, all := checkTalk(t, w, 2, strings.Join(sent, ""), 0)
		if said != all || !sameAnswer(next, want) {
			t.Errorf("the session of the seed %d is another one line by line", seed)
		}
		// The sessions by themselves say the same.
		direct := ""
		if kind == impl.GwImap {
			_, direct, _ = impl.ImapRun(newsEngine(3000), lines)
		} else {
			direct, _ = impl.NntpRun(newsEngine(3000).Boxes, lines)
		}
		if direct != all {
			t.Errorf("the session of the seed %d says %.200q by itself, not %.200q", seed, direct, all)
		}
	}
}

// Connections beside each other: their pieces come in turn, and each is told what its own commands say.
func TestConnectionsBesideEachOther(t *testing.T) {
	for seed := range int64(30) {
		source := rand.New(rand.NewSource(seed))
		g := newGate(t, newsEngine(20000))
		kinds := []int{1, 2, 1 + source.Intn(2), 1 + source.Intn(2)}
		texts := make([]string, 4)
		for conn, kind := range kinds {
			g.open(kind, conn)
			texts[conn] = talkText("l login me feed", "s select news")
			if kind == impl.GwNntp {
				texts[conn] = talkText("group news")
			}
			for range 20 {
				if kind == impl.GwImap {
					texts[conn] += madeCommandLine(source) + "\r\n"
				} else {
					texts[conn] += madeLineOfNews(source) + "\r\n"
				}
			}
		}
		for strings.Join(texts, "") != "" {
			conn := source.Intn(4)
			size := min(len(texts[conn]), source.Intn(60))
			piece := texts[conn][:size]
			texts[conn] = texts[conn][size:]
			before := g.w
			tell := g.do(impl.Event{Kind: impl.GwBytes, Conn: conn, Data: piece})
			if tell.Code != impl.OK && tell.Code != impl.ErrState {
				t.Errorf("of %q is told %s", piece, told(tell))
			}
			for other, c := range g.w.Conns {
				if other != conn && !sameAnswer(c, before.Conns[other]) {
					t.Errorf("bytes for %d change the connection %d", conn, other)
				}
			}
		}
	}
}

// What one does to a box the others are told, and what they read.
func TestConnectionsOfOneBox(t *testing.T) {
	w, _ := impl.NewWorld(impl.MaxRoom)
	g := &gate{t, w}
	g.ask(impl.Event{Kind: impl.GwMake, Box: "news"}, impl.Told{Conn: -1})
	for conn, kind := range []int{1, 2, 1, 2} {
		g.open(kind, conn)
	}
	g.say(0, "a login me feed\r\nb select news", "a OK LOGIN")
	g.say(2, "a login you feed\r\nb examine news\r", "a OK LOGIN")
	g.say(1, "group news\r\nlist\r\nli", "211 0 1 0 news", "215 groups", "news 0 1 n", ".")
	g.ask(impl.Event{Kind: impl.GwPoll, Box: "news", Data: feedOfIds("a", "b", "c")}, impl.Told{Conn: -1, Text: "3"})
	// A command is done when its last byte comes, on what is there then.
	g.say(0, "\r\n", `* FLAGS (\Seen \Answered \Flagged \Deleted \Draft)`, "* 3 EXISTS", "* 0 RECENT", "* OK [UIDVALIDITY 1]", "* OK [UIDNEXT 4]", "b OK [READ-WRITE] SELECT")
	g.say(2, "\n", `* FLAGS (\Seen \Answered \Flagged \Deleted \Draft)`, "* 3 EXISTS", "* 0 RECENT", "* OK [UIDVALIDITY 1]", "* OK [UIDNEXT 4]", "b OK [READ-ONLY] EXAMINE")
	g.say(1, "st\r\n", "215 groups", "news 3 1 n", ".")
	g.say(3, "group news\r\n", "211 3 1 3 news")
	g.say(0, "c store 1 +flags.silent (\\Deleted)\r\nd exp", "c OK STORE")
	g.say(2, "c store 2 +flags (\\Seen)\r\nd fetch 1 flags\r\n", "c NO STORE", `* 1 FETCH (FLAGS (\Deleted))`, "d OK FETCH")
	g.say(0, "unge\r\n", "* 1 EXPUNGE", "d OK EXPUNGE")
	g.say(3, "stat\r\nlistgroup\r\n", "420 no article", "211 2 2 3 news", "2", "3", ".")
	g.ask(impl.Event{Kind: impl.GwPoll, Box: "news", Data: feedOfIds("a", "d")}, impl.Told{Conn: -1, Text: "1"})
	g.say(2, "e noop\r\n", "* 1 EXPUNGE", "* 3 EXISTS", "e OK NOOP")
	g.say(0, "e noop\r\nf logout\r\ng noop\r\n", "* 3 EXISTS", "e OK NOOP", "* BYE", "f OK LOGOUT")
	g.closed(0)
	g.say(1, "group news\r\nquit\r\n", "211 3 2 4 news", "205 bye")
	g.closed(1)
	g.say(2, "f search uid 4\r\n", "* SEARCH 3", "f OK SEARCH")
	g.ask(impl.Event{Kind: impl.GwClose, Conn: 3}, impl.Told{Conn: 3})
	g.closed(0, 1, 3)
	g.waits(2, "")
	if !slices.Equal(uidsOf(g.w.Engine.Boxes[0]), []int{2, 3, 4}) {
		t.Errorf("the box is %s", told(g.w.Engine.Boxes))
	}
}

func TestEndsOfConnections(t *testing.T) {
	for conn := range 4 {
		for _, behind := range []string{"", "x", "\r\n", "b noop\r\n", "list\r\n", "a {4001}\r\n", strings.Repeat("x", 600), strings.Repeat("x", 3980)} {
			g := newGate(t, newsEngine(100))
			for _, x := range []struct {
				kind        int
				begin, last string
				want        []string
			}{
				{impl.GwImap, "", "a logout\r\n", []string{"* BYE", "a OK LOGOUT"}}, {impl.GwNntp, "", "quit\r\n", []string{"205 bye"}}, {impl.GwImap, "a log", "out\r\n", []string{"* BYE", "a OK LOGOUT"}}, {impl.GwNntp, "QUIT\r", "\n", []string{"205 bye"}}, {impl.GwImap, "", "a {4001}\r\n", []string{"* BYE too long"}},
			} {
				g.open(x.kind, conn)
				if x.begin != "" {
					g.say(conn, x.begin)
					g.waits(conn, x.begin)
				}
				g.say(conn, x.last+behind, x.want...)
				g.closed(0, 1, 2, 3)
				for kind := impl.GwBytes; kind <= impl.GwClose; kind++ {
					g.ask(impl.Event{Kind: kind, Conn: conn, Data: behind}, impl.Told{Code: impl.ErrState, Conn: conn})
				}
				// What is opened again begins new.
				for _, kind := range []int{impl.GwImap, impl.GwNntp} {
					g.open(kind, conn)
					g.waits(conn, "")
					g.ask(impl.Event{Kind: impl.GwImap, Conn: conn}, impl.Told{Code: impl.ErrState, Conn: conn})
					g.ask(impl.Event{Kind: impl.GwNntp, Conn: conn}, impl.Told{Code: impl.ErrState, Conn: conn})
					g.say(conn, []string{"", "a fetch 1 flags\r\nb no", "stat\r\nli"}[kind], []string{"", "a BAD FETCH", "412 no group"}[kind])
					g.ask(impl.Event{Kind: impl.GwClose, Conn: conn, Data: "x"}, impl.Told{Conn: conn})
					g.closed(0, 1, 2, 3)
				}
			}
		}
	}
	// What ends a session of the other kind ends none.
	g := newGate(t, newsEngine(100))
	g.open(impl.GwImap, 0)
	g.open(impl.GwNntp, 1)
	g.say(0, "quit\r\na quit\r\n", "* BAD", "a BAD QUIT")
	g.say(1, "logout\r\na logout\r\n", "500 unknown", "500 unknown")
	g.waits(0, "")
	g.waits(1, "")
}

func TestBoundsOfImapPieces(t *testing.T) {
	g := newGate(t, newsEngine(100))
	x := func(size int) string { return strings.Repeat("x", size) }
	g.open(impl.GwImap, 0)
	// A command of MaxCommand bytes is one, however its end comes.
	for _, end := range [][]string{{"\r\n"}, {"\r", "\n"}, {"", "\r", "", "\n"}} {
		g.say(0, x(4000))
		for i, piece := range end {
			if i == len(end)-1 {
				g.say(0, piece, "* BAD")
			} else {
				g.say(0, piece)
			}
		}
		g.waits(0, "")
	}
	g.say(0, x(3998)+"\r\n", "* BAD")
	g.say(0, "a noop "+x(3990)+"\r\nb", "a BAD NOOP")
	g.say(0, " {3990}\r\n"+x(3980))
	g.say(0, x(10)+"\r\nb", "b BAD "+strings.ToUpper(x(3990)))
	g.say(0, " noop\r\n", "b OK NOOP")
	// One of a byte more is too long, as soon as that shows.
	for _, pieces := range [][]string{{x(4000), "x\r\n"}, {x(4000), "x", "\r\n"}, {x(4000), "x\r", "\n"}, {x(4000), "x", "\r", "\n"}, {x(4000), "xxx"}, {x(4000), "xx", "x"}, {x(4000), x(4000)}, {x(1), x(4000), "\r\na noop\r\n"}, {x(4000), "\rx\n"}, {"a {4001}\r\n"}, {"a {3991}\r\n"}, {"a {3990}\r\n" + x(3980), x(10) + "xx", "x"}, {"a {3989}\r\n" + x(3980), x(9) + "xx\r\n"}, {"a {999999}\r\n"}} {
		for i, piece := range pieces {
			if i == len(pieces)-1 {
				g.say(0, piece, "* BYE too long")
				g.closed(0)
			} else {
				g.say(0, piece)
				g.waits(0, strings.Join(pieces[:i+1], ""))
			}
		}
		g.open(impl.GwImap, 0)
	}
	// What comes ahead of it is done.
	g.say(0, "a login me feed\r\nb noop\r\nc {4001}\r\nd noop\r\n", "a OK LOGIN", "b OK NOOP", "* BYE too long")
	g.closed(0)
	// A buffer may hold more than a command, of which nothing is left when it is done.
	for _, size := range []int{7992, 8000} {
		for _, data := range []string{"", "c noop\r\n", strings.Repeat("c noop\r\n", 500)} {
			w := newGate(t, newsEngine(100)).w
			w.Conns[1] = impl.Conn{Kind: 1, Imap: impl.NewImap(), Buffer: strings.Repeat("a noop\r\n", size/8)}
			g := &gate{t, w}
			g.ask(impl.Event{Kind: impl.GwBytes, Conn: 1, Data: data}, impl.Told{Conn: 1, Text: strings.Repeat("a OK NOOP\r\n", size/8) + strings.ReplaceAll(data, "c noop", "c OK NOOP")})
			g.waits(1, "")
			w.Conns[1].Buffer = strings.Repeat("x", size)
			g.w = w
			g.ask(impl.Event{Kind: impl.GwBytes, Conn: 1, Data: data}, impl.Told{Conn: 1, Text: "* BYE too long\r\n"})
			g.closed(1)
		}
	}
	// Ends alone are no commands.
	g.open(impl.GwImap, 0)
	g.ask(impl.Event{Kind: impl.GwBytes, Data: strings.Repeat("\r\n", 2000)}, impl.Told{Text: strings.Repeat("* BAD\r\n", 2000)})
	g.say(0, "")
	g.waits(0, "")
}

func TestBoundsOfNntpPieces(t *testing.T) {
	g := newGate(t, newsEngine(100))
	x := func(size int) string { return strings.Repeat("x", size) }
	g.open(impl.GwNntp, 0)
	for _, size := range []int{499, 500} {
		for _, pieces := range [][]string{{x(size) + "\r\n"}, {x(size), "\r\n"}, {x(size) + "\r", "\n"}, chunksOf(x(size)+"\r\n", 1)} {
			for i, piece := range pieces {
				if i == len(pieces)-1 {
					g.say(0, piece, "500 unknown")
				} else {
					g.say(0, piece)
				}
			}
			g.waits(0, "")
		}
	}
	// A line of more is a bad one if its end comes while there is room for it.
	for _, pieces := range [][]string{{x(501) + "\r\n"}, {x(501), "\r\n"}, {x(501), "\r", "\n"}, {x(502) + "\r\n"}, {x(502), "\r\n"}, {x(503) + "\r\n"}, {x(3998) + "\r\n"}, {x(500), x(3498) + "\r\n"}, {x(500) + "\r", "\r\n"}} {
		for i, piece := range pieces {
			if i == len(pieces)-1 {
				g.say(0, piece, "501 bad line")
			} else {
				g.say(0, piece)
				g.waits(0, strings.Join(pieces[:i+1], ""))
			}
		}
		g.waits(0, "")
	}
	// 502 bytes without an end wait for one, 503 do not.
	for _, pieces := range [][]string{{x(503)}, {x(502), "x"}, {x(502), "\r"}, {x(502), "\n"}, {x(502), "x\r"}, {x(4000)}, {x(501), "\n\r"}, {x(501), "xx"}, {x(1), x(501), "", x(1)}, {x(503) + "\r"}, {x(503) + "\n"}, {strings.Repeat("\n", 503)}, {strings.Repeat("\r", 503)}, {"\n" + strings.Repeat("\r", 501), "\r"}} {
		for i, piece := range pieces {
			if i == len(pieces)-1 {
				g.say(0, piece, "400 too long")
			} else {
				g.say(0, piece)
				g.waits(0, strings.Join(pieces[:i+1], ""))
			}
		}
		g.closed(0)
		g.open(impl.GwNntp, 0)
	}
	// What comes ahead of it is done; what has ended has no more to say.
	g.say(0, "group none_yet\r\nstat\r\n"+x(503), "211 0 1 0 none_yet", "420 no article", "400 too long")
	g.closed(0)
	g.open(impl.GwNntp, 0)
	g.say(0, "stat\r\n"+x(502), "412 no group")
	g.waits(0, x(502))
	g.say(0, "\r\nstat\r\nst", "501 bad line", "412 no group")
	g.say(0, "at\r\nquit\r\n"+x(503), "412 no group", "205 bye")
	g.closed(0)
	// Every sign of a line, and half an end.
	g.open(impl.GwNntp, 0)
	for c := range 256 {
		sign := string([]byte{byte(c)})
		want := "500 unknown"
		if c < 32 || c > 126 {
			want = "501 bad line"
		}
		g.say(0, "x"+sign)
		g.say(0, "y\r\n", want)
		g.waits(0, "")
	}
	// A buffer may hold more than a line.
	for _, size := range []int{502, 503, 7992, 8000} {
		for _, data := range []string{"", "\r\n", "c\r\n", strings.Repeat("c\r\n", 1333)} {
			w := newGate(t, newsEngine(100)).w
			w.Conns[1] = impl.Conn{Kind: 2, Buffer: strings.Repeat("x\r\n", size/3)}
			g := &gate{t, w}
			want := strings.Repeat("500 unknown\r\n", size/3+strings.Count(data, "c"))
			if data == "\r\n" {
				want += "501 empty\r\n"
			}
			g.ask(impl.Event{Kind: impl.GwBytes, Conn: 1, Data: data}, impl.Told{Conn: 1, Text: want})
			g.waits(1, "")
			w.Conns[1].Buffer = strings.Repeat("x", size)
			g.w = w
			switch {
			case data != "":
				g.say(1, data, append([]string{"501 bad line"}, slices.Repeat([]string{"500 unknown"}, max(0, strings.Count(data, "c")-1))...)...)
			case size > 502:
				g.say(1, data, "400 too long")
				g.closed(1)
			default:
				g.say(1, data)
				g.waits(1, x(502))
			}
		}
	}
}

// Of all four connections each has its own buffer and its own session.
func TestBuffersOfConnections(t *testing.T) {
	for _, order := range [][]int{{0, 1, 2, 3}, {3, 2, 1, 0}, {2, 0, 3, 1}} {
		g := newGate(t, newsEngine(2000))
		for _, conn := range order {
			g.open(impl.GwImap, conn)
			g.say(conn, fmt.Sprintf("a%d login me", conn))
		}
		for _, conn := range order {
			g.waits(conn, fmt.Sprintf("a%d login me", conn))
			g.say(conn, fmt.Sprintf(" feed\r\nb%d noop\r\nc", conn), fmt.Sprintf("a%d OK LOGIN", conn), fmt.Sprintf("b%d OK NOOP", conn))
		}
		for _, conn := range order {
			g.waits(conn, "c")
			g.ask(impl.Event{Kind: impl.GwClose, Conn: conn}, impl.Told{Conn: conn})
			g.ask(impl.Event{Kind: impl.GwClose, Conn: conn}, impl.Told{Code: impl.ErrState, Conn: conn})
			g.open(impl.GwNntp, conn)
			g.say(conn, "stat\r\nd", "412 no group")
		}
		g.ask(impl.Event{Kind: impl.GwCrash}, impl.Told{Conn: -1})
		g.closed(0, 1, 2, 3)
	}
}
