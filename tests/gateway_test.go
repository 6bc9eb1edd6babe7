package tests

import (
	"fmt"
	"math"
	"math/rand"
	"slices"
	"strings"
	"testing"

	"loop.example/g00268/impl"
)

func TestBoundsOfWorlds(t *testing.T) {
	if impl.MaxConns != 4 || impl.MaxEvents != 120 {
		t.Error("the bounds of worlds")
	}
	if kinds := []int{impl.GwImap, impl.GwNntp, impl.GwBytes, impl.GwClose, impl.GwPoll, impl.GwMake, impl.GwCrash}; !slices.Equal(kinds, upTo(1, 7)) {
		t.Error("the kinds of events are", kinds)
	}
}

func TestNewWorlds(t *testing.T) {
	for _, room := range []int{0, 1, 14, 15, 1000, 59999, 60000} {
		w, code := impl.NewWorld(room)
		if code != impl.OK || !sameAnswer(w, impl.World{Engine: impl.Engine{Log: impl.Log{Room: room}}, Conns: make([]impl.Conn, 4)}) || !impl.WorldOK(w) || !rightWorld(w) {
			t.Errorf("NewWorld of %d = %s, %d", room, told(w), code)
		}
	}
	for _, room := range []int{-1, -2, 60001, 65536, 1 << 32, -1 << 32, math.MaxInt, math.MinInt} {
		if w, code := impl.NewWorld(room); code != impl.ErrRange || !sameAnswer(w, impl.World{}) {
			t.Errorf("NewWorld of %d = %s, %d", room, told(w), code)
		}
		for _, n := range []int{0, 1, 120, 121, 4096} {
			checkWorldRunCode(t, room, make([]impl.Event, n), impl.ErrRange)
		}
	}
	// A log without room takes no box.
	for room, code := range map[int]int{0: impl.ErrFull, 17: impl.ErrFull, 18: impl.OK, 60000: impl.OK} {
		_, all, _ := checkWorldRun(t, room, []impl.Event{{Kind: impl.GwMake, Box: "news"}})
		if !slices.Equal(all, []impl.Told{{Code: code, Conn: -1}}) {
			t.Errorf("with room for %d is told %s, not %d", room, told(all), code)
		}
	}
}

// rightConns is ones of every kind and state, over the boxes of newsEngine.
func rightConns() []impl.Conn {
	list := []impl.Conn{{}, {Imap: impl.Imap{View: []int{}}}}
	for _, buffer := range []string{"", "a", "\r", "a noop\r\n", "\xff\x00", strings.Repeat("x", 502), strings.Repeat("x", 503), strings.Repeat("x", 4001), strings.Repeat("x", 7999), strings.Repeat("x", 8000)} {
		for _, s := range someSays() {
			list = append(list, impl.Conn{Kind: 1, Buffer: buffer, Imap: s})
		}
		for _, s := range someReaders() {
			list = append(list, impl.Conn{Kind: 2, Buffer: buffer, Nntp: s})
		}
	}
	return list
}

func TestRightWorlds(t *testing.T) {
	events := []impl.Event{{Kind: 4}, {Kind: 1, Conn: 1}, {Kind: 2, Conn: 2}, {Kind: 3, Conn: 3}, {Kind: 3}, {Kind: 3, Data: "\r\n"}, {Kind: 7}, {}, {Kind: 6, Box: "a"}}
	for i, c := range rightConns() {
		g := newGate(t, newsEngine(500))
		g.w.Conns[i%4] = c
		if !impl.WorldOK(g.w) || !rightWorld(g.w) {
			t.Errorf("%s is not right", told(c))
		}
		for _, e := range events {
			if e.Conn == 0 {
				e.Conn = i % 4
			}
			checkWorldStepCode(t, g.w, e, impl.OK)
		}
	}
	w := impl.World{Engine: newsEngine(0), Conns: []impl.Conn{{Kind: 1, Imap: selectedOf("none_yet", true, 9)}, {Kind: 2, Nntp: impl.Nntp{Group: "gone"}}, {}, {Kind: 1, Imap: impl.NewImap(), Buffer: strings.Repeat("x", 8000)}}}
	if !impl.WorldOK(w) || !rightWorld(w) {
		t.Error("a world of connections of all kinds is not right")
	}
}

// wrongConns is ones that are not right, in each way, over the boxes of newsEngine.
func wrongConns() []impl.Conn {
	open, read := impl.Imap{State: 2}, impl.Nntp{Group: "news", Now: 1}
	list := []impl.Conn{
		// What is closed has nothing.
		{Buffer: "a"}, {Buffer: "\x00"}, {Buffer: endlessText}, {Imap: impl.NewImap()}, {Imap: open}, {Imap: selectedOf("news", false)}, {Imap: impl.Imap{Box: "news"}}, {Imap: impl.Imap{ReadOnly: true}}, {Imap: impl.Imap{View: []int{1}}}, {Nntp: read}, {Nntp: impl.Nntp{Group: "news"}}, {Nntp: impl.Nntp{Now: 1}}, {Nntp: impl.Nntp{Over: true}},
		// What has ended is closed.
		{Kind: 1}, {Kind: 1, Buffer: "a"}, {Kind: 2, Nntp: impl.Nntp{Over: true}}, {Kind: 2, Nntp: impl.Nntp{Over: true}, Buffer: "a"},
		// A Box that is not there.
		{Kind: 1, Imap: selectedOf("gone", false)}, {Kind: 1, Imap: selectedOf("News", true, 1)}, {Kind: 1, Imap: selectedOf("new", false, 1)},
		// A session of another kind beside.
		{Kind: 1, Imap: open, Nntp: read}, {Kind: 1, Imap: open, Nntp: impl.Nntp{Over: true}}, {Kind: 1, Imap: open, Nntp: impl.Nntp{Group: "news"}}, {Kind: 1, Imap: open, Nntp: impl.Nntp{Now: 1}}, {Kind: 2, Imap: open}, {Kind: 2, Imap: impl.NewImap(), Nntp: read}, {Kind: 2, Nntp: read, Imap: selectedOf("news", false, 1)}, {Kind: 2, Imap: impl.Imap{Box: "news"}}, {Kind: 2, Imap: impl.Imap{ReadOnly: true}}, {Kind: 2, Imap: impl.Imap{View: []int{1}}},
		{Kind: 1, Nntp: read}, {Kind: 2, Imap: open, Nntp: impl.Nntp{Over: true}},
	}
	for _, size := range []int{8001, 8002, 12000, 65536, 65537} {
		list = append(list, impl.Conn{Kind: 1, Imap: open, Buffer: strings.Repeat("x", size)}, impl.Conn{Kind: 2, Buffer: strings.Repeat("\r\n", size)[:size]})
	}
	for _, kind := range []int{-1, 3, 4, 5, 6, 7, 8, 256, 1 << 32, 1<<32 + 1, math.MaxInt, math.MinInt} {
		list = append(list, impl.Conn{Kind: kind}, impl.Conn{Kind: kind, Imap: open}, impl.Conn{Kind: kind, Nntp: read})
	}
	for _, s := range wrongSessions() {
		list = append(list, impl.Conn{Kind: 1, Imap: s}, impl.Conn{Imap: s}, impl.Conn{Kind: 2, Imap: s})
	}
	for _, s := range wrongReaders() {
		list = append(list, impl.Conn{Kind: 2, Nntp: s}, impl.Conn{Nntp: s}, impl.Conn{Kind: 1, Imap: open, Nntp: s})
	}
	return list
}

// eventsOfKinds is one of each kind that would be done to a closed connection, to an open one, or to none, and of kinds that are none.
func eventsOfKinds() []impl.Event {
	return []impl.Event{{Kind: 1}, {Kind: 2}, {Kind: 3}, {Kind: 3, Data: "\r\n"}, {Kind: 4}, {Kind: 5, Box: "news", Data: feedOfIds("z")}, {Kind: 5}, {Kind: 6, Box: "a"}, {Kind: 6}, {Kind: 7}, {Kind: 7, Keep: 5000, Box: "news", Data: feedOfIds("z")}, {}, {Kind: 8}, {Kind: -1}, {Kind: 1, Conn: 4}, {Kind: 3, Data: strings.Repeat("x", 4001)}}
}

// checkWrongWorld asks that no event is done to a world that is not right; texts that are too long are told ahead.
func checkWrongWorld(t *testing.T, w impl.World) {
	t.Helper()
	if impl.WorldOK(w) || rightWorld(w) {
		t.Errorf("%s is right", told(w))
	}
	for _, e := range eventsOfKinds() {
		checkWorldStepCode(t, w, e, impl.ErrBad)
		e.Conn = 3
		checkWorldStepCode(t, w, e, impl.ErrBad)
	}
	for _, e := range []impl.Event{{Kind: 1, Box: longText}, {Kind: 3, Data: longText}, {Data: endlessText}, {Kind: 7, Box: longText, Data: longText}} {
		checkWorldStepCode(t, w, e, impl.ErrLong)
	}
}

func TestWrongWorlds(t *testing.T) {
	for i, c := range wrongConns() {
		for _, at := range []int{i % 4, 3} {
			g := newGate(t, newsEngine(500))
			g.w.Conns[0].Kind = impl.GwNntp
			g.w.Conns[at] = c
			checkWrongWorld(t, g.w)
		}
	}
	for _, n := range []int{0, 1, 3, 5, 8, 4096, 5000} {
		checkWrongWorld(t, impl.World{Engine: newsEngine(500), Conns: make([]impl.Conn, n)})
	}
	for _, e := range wrongEngines() {
		checkWrongWorld(t, newGate(t, e).w)
	}
	checkWrongWorld(t, impl.World{})
}

// A world with a connection of each sort: closed, of IMAP, of NNTP, and of IMAP with a box.
func mixedGate(t *testing.T) *gate {
	g := newGate(t, newsEngine(2000))
	g.open(impl.GwImap, 1)
	g.open(impl.GwNntp, 2)
	g.open(impl.GwImap, 3)
	g.do(impl.Event{Kind: impl.GwBytes, Conn: 3, Data: "a login me feed\r\nb select news\r\nc no"})
	return g
}

func TestEventsInEveryState(t *testing.T) {
	g := mixedGate(t)
	ready := []string{"", "* OK ready\r\n", "201 ready\r\n"}
	for _, conn := range []int{-1, -2, 0, 1, 2, 3, 4, 5, 256, 1 << 32, 1<<32 + 1, math.MaxInt, math.MinInt} {
		there := conn >= 0 && conn < 4
		for kind := -2; kind < 12; kind++ {
			// What an event's kind does not name says nothing.
			e := impl.Event{Kind: kind, Conn: conn, Keep: 77, Box: "4th", Data: "no feed, and no command"}
			want := impl.Told{Conn: -1}
			switch {
			case kind < 1 || kind > 7:
				want.Code = impl.ErrForm
			case kind == 5:
				want.Code = impl.ErrNone
			case kind == 6:
				want.Code = impl.ErrBad
			case kind == 7:
			case !there:
				want.Code = impl.ErrRange
			case (conn == 0) != (kind < 3):
				want = impl.Told{Code: impl.ErrState, Conn: conn}
			case kind < 3:
				want = impl.Told{Conn: conn, Text: ready[kind]}
			default:
				want.Conn = conn
			}
			next, tell, code := checkWorldStep(t, g.w, e)
			if tell != want || code != impl.OK {
				t.Errorf("of the kind %d, to %d, is told %s, %d, not %s", kind, conn, told(tell), code, told(want))
			}
			if tell.Code != impl.OK && !sameAnswer(next, g.w) {
				t.Errorf("of the kind %d, to %d, something changes", kind, conn)
			}
		}
	}
}

// Only what comes as bytes to a connection that is there, and open, is measured by a command.
func TestLengthsOfEvents(t *testing.T) {
	g := mixedGate(t)
	for _, size := range []int{0, 1, 3999, 4000, 4001, 4002, 8000, 65535, 65536} {
		data := strings.Repeat("x", size)
		for conn, code := range map[int]int{-1: impl.ErrRange, 0: impl.ErrState, 1: impl.OK, 2: impl.OK, 3: impl.OK, 4: impl.ErrRange} {
			want := impl.Told{Code: code, Conn: conn}
			if conn < 0 || conn > 3 {
				want.Conn = -1
			} else if conn > 0 && size > 4000 {
				want.Code = impl.ErrRange
			}
			_, tell, _ := checkWorldStep(t, g.w, impl.Event{Kind: impl.GwBytes, Conn: conn, Data: data})
			if tell.Code != want.Code || tell.Conn != want.Conn {
				t.Errorf("of %d bytes to %d is told %s, not %s", size, conn, told(tell), told(want))
			}
		}
		for _, e := range []impl.Event{{Kind: impl.GwImap, Data: data}, {Kind: impl.GwNntp, Box: data, Data: data}, {Kind: impl.GwClose, Conn: 1, Data: data}, {Kind: impl.GwMake, Box: "a", Data: data}, {Kind: impl.GwCrash, Box: data, Data: data}} {
			if _, tell, _ := checkWorldStep(t, g.w, e); tell.Code != impl.OK {
				t.Errorf("of the kind %d, with a text of %d bytes, is told %s", e.Kind, size, told(tell))
			}
		}
	}
	for _, text := range []string{longText, fullText + "\xff", endlessText} {
		for kind := -1; kind < 9; kind++ {
			for _, conn := range []int{-1, 0, 1, 4} {
				for _, e := range []impl.Event{{Kind: kind, Conn: conn, Box: text}, {Kind: kind, Conn: conn, Data: text}, {Kind: kind, Conn: conn, Box: text, Data: text}} {
					checkWorldStepCode(t, g.w, e, impl.ErrLong)
				}
			}
		}
	}
}

func TestPollsOfWorlds(t *testing.T) {
	g := newGate(t, engineOf(impl.MaxRoom, madeBox("news"), madeBox("more")))
	poll := func(box, feed string, code int, text string) {
		t.Helper()
		want, _, _ := polledOf(g.w.Engine, box, feed)
		g.ask(impl.Event{Kind: impl.GwPoll, Conn: 9, Keep: 9, Box: box, Data: feed}, impl.Told{Code: code, Conn: -1, Text: text})
		if !sameAnswer(g.w.Engine, want) {
			t.Errorf("polling %q into %s makes %s, not %s", brief(feed), box, told(g.w.Engine), told(want))
		}
	}
	poll("news", "<feed/>", impl.OK, "0")
	poll("news", feedOfIds("a"), impl.OK, "1")
	poll("news", feedOfIds("a"), impl.OK, "0")
	poll("news", itemsOfIds("b", "a", "c", "b", "d"), impl.OK, "3")
	poll("more", feedOfIds(keysOf(11)...), impl.OK, "11")
	for _, box := range []string{"none", "", "News", "9", fullText} {
		poll(box, feedOfIds("x"), impl.ErrNone, "")
		poll(box, "no feed", impl.ErrNone, "")
	}
	for code, feed := range feedsOfCodes() {
		poll("news", feed, code, "")
	}
	poll("news", feedText(impl.Feed{Entries: []impl.Entry{entryOfMail("i", impl.MaxLetter+1)}}), impl.ErrRange, "")
	if len(g.w.Engine.Boxes[0].Mails) != 4 || len(g.w.Engine.Boxes[1].Mails) != 11 {
		t.Errorf("the boxes are %s", told(g.w.Engine.Boxes))
	}
	for _, e := range someEngines() {
		for _, feed := range samplePolls() {
			if len(feed) <= impl.MaxText {
				g := newGate(t, e)
				g.do(impl.Event{Kind: impl.GwPoll, Box: "news", Data: feed})
			}
		}
	}
}

func TestMadeBoxesOfWorlds(t *testing.T) {
	g := newGate(t, engineOf(1000))
	make := func(box string, code, count int) {
		t.Helper()
		g.ask(impl.Event{Kind: impl.GwMake, Conn: -9, Keep: 9, Box: box, Data: "x"}, impl.Told{Code: code, Conn: -1})
		if len(g.w.Engine.Boxes) != count {
			t.Errorf("behind %q there are %d boxes, not %d", brief(box), len(g.w.Engine.Boxes), count)
		}
	}
	wrong := []string{"", "9", "a b", " a", "a ", "\u00e4", "a\r\n", "a\x00", "*", strings.Repeat("n", 41), fullText}
	for i, box := range []string{"news", "_", "Z9", strings.Repeat("n", 40)} {
		for _, name := range wrong {
			make(name, impl.ErrBad, i)
		}
		make(box, impl.OK, i+1)
		make(box, impl.ErrTwice, i+1)
		make("news", impl.ErrTwice, i+1)
		if b := g.w.Engine.Boxes[i]; !sameAnswer(b, impl.Box{Name: box, Valid: i + 1, Next: 1}) {
			t.Errorf("the box is %s", told(b))
		}
	}
	make("fifth", impl.ErrFull, 4)
	make("news", impl.ErrTwice, 4)
	make("9", impl.ErrBad, 4)
}

// The power goes at every byte of what a poll writes, and around: it is done, or not, whole.
func TestCrashesOfWorlds(t *testing.T) {
	events := []impl.Event{
		{Kind: impl.GwMake, Box: "news"}, {Kind: impl.GwPoll, Box: "news", Data: feedOfIds("a", "b", "c")}, {Kind: impl.GwImap, Conn: 2}, {Kind: impl.GwBytes, Conn: 2, Data: "a login me feed\r\nb select news\r\nc store 2 +flags (\\Deleted)\r\nd expunge\r\ne store 1 +flags (\\Seen)\r\nf fe"}, {Kind: impl.GwMake, Box: "more"}, {Kind: impl.GwNntp, Conn: 0}, {Kind: impl.GwBytes, Conn: 0, Data: "group news\r\nst"}, {Kind: impl.GwPoll, Box: "more", Data: feedOfIds("a")}, {Kind: impl.GwImap, Conn: 1},
	}
	w, _, _ := checkWorldRun(t, impl.MaxRoom, events)
	feed := feedOfIds("b", "d", "a", "e")
	whole, count, _ := polledOf(w.Engine, "news", feed)
	size := len(whole.Log.Data) - len(w.Engine.Log.Data)
	if count != 2 || size < 100 {
		t.Fatal("the poll adds", count, "of", size)
	}
	keeps := append(upTo(-2, size+2), math.MinInt, math.MaxInt, 2*size, impl.MaxRoom, 1<<32)
	for _, keep := range keeps {
		g := &gate{t, w}
		h := history{map[string]string{}, map[string]int{}, map[string]bool{}}
		h.look(t, nil, w.Engine.Boxes)
		g.ask(impl.Event{Kind: impl.GwCrash, Conn: 7, Keep: keep, Box: "news", Data: feed}, impl.Told{Conn: -1})
		want, left := w.Engine, "2"
		if keep >= size {
			want, left = whole, "0"
		}
		if !sameAnswer(g.w.Engine, want) || !impl.EngineOK(g.w.Engine) {
			t.Errorf("with %d bytes kept of %d the engine is %s, not %s", keep, size, told(g.w.Engine), told(want))
		}
		g.closed(0, 1, 2, 3)
		h.look(t, w.Engine.Boxes, g.w.Engine.Boxes)
		// It goes on from there, with new connections.
		g.ask(impl.Event{Kind: impl.GwPoll, Box: "news", Data: feed}, impl.Told{Conn: -1, Text: left})
		h.look(t, w.Engine.Boxes, g.w.Engine.Boxes)
		if !sameAnswer(g.w.Engine.Boxes, whole.Boxes) {
			t.Errorf("polled again the boxes are %s", told(g.w.Engine.Boxes))
		}
		g.ask(impl.Event{Kind: impl.GwBytes, Conn: 2, Data: "tch 1 flags\r\n"}, impl.Told{Code: impl.ErrState, Conn: 2})
		g.open(impl.GwNntp, 2)
		g.say(2, "listgroup news\r\n", "211 4 1 5 news", "1", "3", "4", "5", ".")
		if run, all, _ := checkWorldRun(t, impl.MaxRoom, append(slices.Clone(events), impl.Event{Kind: impl.GwCrash, Keep: keep, Box: "news", Data: feed})); !sameAnswer(run.Engine, want) || all[len(all)-1] != (impl.Told{Conn: -1}) {
			t.Errorf("in a run, with %d bytes kept of %d, the engine is %s", keep, size, told(run.Engine))
		}
	}
}

// What could not be committed, or has nothing new, is not written, whatever is kept.
func TestCrashesWithoutARecord(t *testing.T) {
	tight := newsEngine(0)
	tooLong := feedText(impl.Feed{Entries: []impl.Entry{entryOfMail("i", impl.MaxLetter+1)}})
	var large []impl.Entry
	for i := range 6 {
		large = append(large, entryOfMail(fmt.Sprint("large ", i), impl.MaxLetter))
	}
	for _, x := range []struct {
		engine    impl.Engine
		box, feed string
	}{
		{newsEngine(5000), "", ""}, {newsEngine(5000), "news", ""}, {newsEngine(5000), "", feedOfIds("z")}, {newsEngine(5000), "none", feedOfIds("z")}, {newsEngine(5000), "news", "<feed/>"}, {newsEngine(5000), "news", feedOfIds("a", "e", "a")}, {newsEngine(5000), "more", feedOfIds("a")}, {newsEngine(5000), "news", tooLong}, {newsEngine(5000), "news", "<feed>"}, {newsEngine(5000), fullText, fullText},
		{tight, "news", feedOfIds("z")}, {newsEngine(100), "news", feedOfIds("z")}, {engineOf(impl.MaxRoom, madeBox("news")), "news", feedText(impl.Feed{Entries: large})}, {engineOf(impl.MaxRoom, fullMutations("news")...), "news", feedOfIds("z")}, {engineOf(impl.MaxRoom, spentMutations("news")...), "news", feedOfIds("z")}, {impl.Engine{}, "news", feedOfIds("z")},
	} {
		for _, keep := range []int{math.MinInt, -1, 0, 1, 6, 7, 8, 300, 20000, impl.MaxRoom, math.MaxInt} {
			g := newGate(t, x.engine)
			g.open(impl.GwImap, 0)
			g.open(impl.GwNntp, 3)
			g.ask(impl.Event{Kind: impl.GwCrash, Keep: keep, Box: x.box, Data: x.feed}, impl.Told{Conn: -1})
			if !sameAnswer(g.w.Engine, x.engine) {
				t.Errorf("with %d bytes kept of %s, %q the engine is %s", keep, brief(x.box), brief(x.feed), told(g.w.Engine))
			}
			g.closed(0, 1, 2, 3)
		}
	}
}

// Worlds that began new: whatever comes, their boxes keep uids, keys and mails, and what is told is told in one run as well.
func TestMadeWorlds(t *testing.T) {
	tells := map[string]int{}
	for seed := range int64(80) {
		source := rand.New(rand.NewSource(seed))
		room := []int{60000, 60000, 8000, 3000}[seed%4]
		h := history{map[string]string{}, map[string]int{}, map[string]bool{}}
		w, _ := impl.NewWorld(room)
		g := &gate{t, w}
		events := []impl.Event{{Kind: impl.GwMake, Box: "news"}, {Kind: impl.GwPoll, Box: "news", Data: feedOfIds("id 1", "id 2", "id 3")}, {Kind: impl.GwMake, Box: "more"}, {Kind: 1 + source.Intn(2)}}
		var all []impl.Told
		for i := range 120 {
			e := madeEvent(source, g.w)
			if i < len(events) {
				e = events[i]
			} else {
				events = append(events, e)
			}
			before := g.w
			tell := g.do(e)
			all = append(all, tell)
			h.look(t, before.Engine.Boxes, g.w.Engine.Boxes)
			if e.Kind == impl.GwCrash {
				g.closed(0, 1, 2, 3)
			}
			tells[fmt.Sprint(e.Kind, " ", tell.Code)]++
			for _, said := range strings.Split(tell.Text, "\r\n") {
				tells[said]++
			}
		}
		run, tell, code := checkWorldRun(t, room, events)
		if !sameAnswer(run, g.w) || !slices.Equal(tell, all) || code != impl.OK {
			t.Errorf("the run of the seed %d tells other things than its events", seed)
		}
	}
	for _, tell := range []string{"1 0", "1 14", "2 0", "3 0", "3 14", "4 0", "4 14", "5 0", "5 5", "5 11", "5 13", "6 0", "6 1", "6 7", "6 9", "7 0", "0 3", "8 3", "a OK EXPUNGE", "a OK STORE", "a OK FETCH", "l BAD LOGIN", "* BYE too long", "400 too long", "501 bad line"} {
		if tells[tell] < 2 {
			t.Errorf("only %d events tell %q", tells[tell], tell)
		}
	}
}

func TestWorldRuns(t *testing.T) {
	w, all, code := checkWorldRun(t, 5000, nil)
	if !sameAnswer(w, impl.World{Engine: impl.Engine{Log: impl.Log{Room: 5000}}, Conns: make([]impl.Conn, 4)}) || len(all) != 0 || code != impl.OK {
		t.Errorf("WorldRun of nothing = %s, %s, %d", told(w), told(all), code)
	}
	for n, code := range map[int]int{0: impl.OK, 1: impl.OK, 119: impl.OK, 120: impl.OK, 121: impl.ErrMany, 122: impl.ErrMany, 4096: impl.ErrMany, 4097: impl.ErrLong, 100000: impl.ErrLong} {
		for _, e := range eventsOfKinds() {
			checkWorldRunCode(t, 1000, slices.Repeat([]impl.Event{e}, n), code)
		}
		// A list that is too long is told ahead of a room that is none, that one ahead of too many events, and these ahead of texts that are too long.
		behindRoom := impl.ErrRange
		if code == impl.ErrLong {
			behindRoom = impl.ErrLong
		}
		checkWorldRunCode(t, -1, make([]impl.Event, n), behindRoom)
		checkWorldRunCode(t, 60001, make([]impl.Event, n), behindRoom)
		if n == 0 {
			continue
		}
		for _, at := range []int{0, n / 2, n - 1} {
			for _, e := range []impl.Event{{Kind: 3, Data: longText}, {Kind: 6, Box: longText}, {Box: endlessText}, {Kind: 9, Conn: 9, Data: longText}} {
				events := make([]impl.Event, n)
				events[at] = e
				behindTexts := code
				if code == impl.OK {
					behindTexts = impl.ErrLong
				}
				checkWorldRunCode(t, 1000, events, behindTexts)
				checkWorldRunCode(t, math.MinInt, events, behindRoom)
			}
		}
	}
	checkWorldRunCode(t, 1000, []impl.Event{{Kind: 6, Box: fullText}, {Kind: 3, Data: fullText}, {Kind: 7, Box: fullText, Data: fullText}}, impl.OK)
}

func TestSaidLines(t *testing.T) {
	for _, kind := range []int{impl.GwImap, impl.GwNntp} {
		for _, lines := range [][]string{nil, {}, {""}, {"a noop"}, {"a noop", "", "b logout", "a noop", " "}, slices.Repeat([]string{"quit"}, 4096)} {
			sent, code := checkSent(t, lines, kind)
			if code != impl.OK || strings.Join(sent, "") != strings.Join(append(slices.Clone(lines), ""), "\r\n") || len(sent) != len(lines) {
				t.Errorf("SayAll of %.100q, %d = %.100q, %d", lines, kind, sent, code)
			}
		}
		for _, lines := range [][]string{slices.Repeat([]string{"quit"}, 4097), make([]string, 100000)} {
			checkSentCode(t, lines, kind, impl.ErrLong)
		}
		// A line counts with its end; of several the first one that is wrong counts, with its first fault.
		for size, code := range map[int]int{3997: impl.OK, 3998: impl.OK, 3999: impl.ErrRange, 4000: impl.ErrRange, 65536: impl.ErrRange, 65537: impl.ErrRange} {
			if kind == impl.GwNntp && code == impl.OK {
				code = impl.ErrForm
			}
			checkSentCode(t, []string{strings.Repeat("x", size)}, kind, code)
			checkSentCode(t, []string{"a", strings.Repeat("x", size), "a\r\nb"}, kind, max(code, impl.ErrForm))
			checkSentCode(t, []string{"a\r\nb", strings.Repeat("x", size)}, kind, impl.ErrForm)
			if size > 3998 {
				checkSentCode(t, []string{strings.Repeat("\r\n", size)[:size], "a\r\nb"}, kind, impl.ErrRange)
				checkSentCode(t, []string{"a {9}\r\n" + strings.Repeat("x", size)}, kind, impl.ErrRange)
			}
		}
		for _, line := range []string{"\r\n", "a\r\nb", "a\r\n", "\r\na", "a noop\r\nb noop\r\n", "a {2}", "a {2}\r\nabc\r\n", "a {4000}", "a {4001}\r\nx", "a {1}\r\n", "a {0}", "a {1}\r\nx {1}", "a\r\n\r\n", "\r\n\r"} {
			checkSentCode(t, []string{line}, kind, map[bool]int{true: impl.ErrForm, false: impl.OK}[kind == 1 || strings.Contains(line, "\r\n")])
			checkSentCode(t, []string{"a noop", line, strings.Repeat("x", 5000)}, kind, map[bool]int{true: impl.ErrForm, false: impl.ErrRange}[kind == 1 || strings.Contains(line, "\r\n")])
		}
	}
	for _, kind := range []int{0, 3, 4, 5, 6, 7, 8, -1, 256, 1 << 32, 1<<32 + 1, math.MaxInt, math.MinInt} {
		for _, lines := range [][]string{nil, {"a"}, {"a\r\nb"}, {longText}, make([]string, 4096)} {
			checkSentCode(t, lines, kind, impl.ErrBad)
		}
		checkSentCode(t, make([]string, 4097), kind, impl.ErrLong)
	}
}

func TestSignsOfSaidLines(t *testing.T) {
	// What is counted is part of one command; what has an end alone, or a half of one, is no line, but may be a command.
	for _, line := range []string{"a {2}\r\n\r\n", "a {0}\r\n", "a {3}\r\n{1}", "a {2}\r\nab {3}\r\n\r\n\r", "b x {2}\r\nab", "{5}\r\n\r\n\r\n\r", "a {4000", "a {x}\r", "a {00}", "a {1000000}", "a\rb", "a\nb", "\r", "\n", "\r\r", "\n\r", "a\r", "a\n", "\x00\xff\x7f\x1f"} {
		checkSentCode(t, []string{line}, impl.GwImap, impl.OK)
		code := impl.ErrForm
		if shownPattern.MatchString(line) {
			code = impl.OK
		}
		checkSentCode(t, []string{line}, impl.GwNntp, code)
	}
	for c := range 256 {
		sign := string([]byte{byte(c)})
		for _, line := range []string{sign, "a" + sign, sign + "a", "a" + sign + "b"} {
			code := impl.ErrForm
			if c >= 32 && c <= 126 {
				code = impl.OK
			}
			checkSentCode(t, []string{line}, impl.GwNntp, code)
			checkSentCode(t, []string{line}, impl.GwImap, impl.OK)
		}
	}
	for size, code := range map[int]int{0: impl.OK, 1: impl.OK, 499: impl.OK, 500: impl.OK, 501: impl.ErrForm, 502: impl.ErrForm, 3998: impl.ErrForm, 3999: impl.ErrRange} {
		checkSentCode(t, []string{strings.Repeat("~", size)}, impl.GwNntp, code)
		checkSentCode(t, []string{strings.Repeat(" ", size)}, impl.GwNntp, code)
		checkSentCode(t, []string{strings.Repeat("~", size)}, impl.GwImap, map[bool]int{true: impl.ErrRange, false: impl.OK}[size > 3998])
	}
	// What is counted is there, as long as the whole has room; without it there is only half a command.
	for _, counted := range []int{1, 2, 500, 3987, 3988, 3989, 3990, 3991, 3999, 4000, 4001} {
		head := fmt.Sprintf("a {%d}", counted)
		line, code := head+"\r\n"+strings.Repeat("x", counted), impl.OK
		if len(line) > 3998 {
			code = impl.ErrRange
		}
		checkSentCode(t, []string{line}, impl.GwImap, code)
		checkSentCode(t, []string{head}, impl.GwImap, impl.ErrForm)
		// The last byte that is counted would be half of the end.
		checkSentCode(t, []string{head + "\r\n" + strings.Repeat("x", min(counted, 3000)-1)}, impl.GwImap, impl.ErrForm)
	}
}
