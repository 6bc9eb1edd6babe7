package tests

import (
	"fmt"
	"math/rand"
	"slices"
	"strings"
	"testing"

	"loop.example/g00268/impl"
)

// Chapter 16 once more, over the other readers of engines, commands and sessions: what a world tells is held against it.

// rightConn is whether a connection is right: what is left when all that its kind may have is taken away is nothing.
func rightConn(boxes []impl.Box, c impl.Conn) bool {
	there := slices.ContainsFunc(boxes, func(b impl.Box) bool { return b.Name == c.Imap.Box })
	switch {
	case c.Kind == 1 && rightSession(c.Imap) && c.Imap.State != 0 && (there || c.Imap.State != 3) && len(c.Buffer) <= 8000:
		c = impl.Conn{Nntp: c.Nntp}
	case c.Kind == 2 && rightReader(c.Nntp) && !c.Nntp.Over && len(c.Buffer) <= 8000:
		c = impl.Conn{Imap: c.Imap}
	}
	return sameAnswer(c, impl.Conn{})
}

// rightWorld is WorldOK once more.
func rightWorld(w impl.World) bool {
	for _, c := range w.Conns {
		if !rightConn(w.Engine.Boxes, c) {
			return false
		}
	}
	return len(w.Conns) == 4 && rightEngine(w.Engine)
}

// happened is what an event does to a right world, and what is told.
func happened(w impl.World, e impl.Event) (impl.World, impl.Told) {
	next := impl.World{Engine: w.Engine, Conns: slices.Clone(w.Conns)}
	code, text := 0, ""
	switch e.Kind {
	case 1, 2, 3, 4:
		if e.Conn < 0 || e.Conn > 3 {
			return w, impl.Told{Code: impl.ErrRange, Conn: -1}
		}
		if code, text = happenedAt(&next, e); code != impl.OK {
			return w, impl.Told{Code: code, Conn: e.Conn}
		}
		return next, impl.Told{Conn: e.Conn, Text: text}
	case 5:
		count := 0
		next.Engine, count, code = polledOf(w.Engine, e.Box, e.Data)
		text = fmt.Sprint(count)
	case 6:
		next.Engine, code = commitOf(w.Engine, madeBox(e.Box))
	case 7:
		if m, code := pollOf(w.Engine.Boxes, e.Box, e.Data); code == impl.OK && len(m.Items) > 0 {
			next.Engine, _ = crashOf(w.Engine, m, e.Keep)
		}
		next.Conns = make([]impl.Conn, 4)
	default:
		code = impl.ErrForm
	}
	if code != impl.OK {
		return w, impl.Told{Code: code, Conn: -1}
	}
	return next, impl.Told{Conn: -1, Text: text}
}

func happenedAt(w *impl.World, e impl.Event) (int, string) {
	c := w.Conns[e.Conn]
	if (c.Kind == 0) != (e.Kind < 3) {
		return impl.ErrState, ""
	}
	text := ""
	switch e.Kind {
	case 1:
		c, text = impl.Conn{Kind: 1, Imap: impl.Imap{State: 1}}, "* OK ready\r\n"
	case 2:
		c, text = impl.Conn{Kind: 2}, "201 ready\r\n"
	case 3:
		if len(e.Data) > 4000 {
			return impl.ErrRange, ""
		}
		c.Buffer += e.Data
		if c.Kind == 1 {
			c, text = spokenTo(w, c)
		} else {
			c, text = readTo(w.Engine.Boxes, c)
		}
	case 4:
		c = impl.Conn{}
	}
	w.Conns[e.Conn] = c
	return impl.OK, text
}

// spokenTo does what is whole in the buffer of a connection of IMAP.
func spokenTo(w *impl.World, c impl.Conn) (impl.Conn, string) {
	text := ""
	for {
		command, rest, code := takenOf(c.Buffer)
		switch code {
		case impl.ErrMore:
			return c, text
		case impl.ErrRange:
			return impl.Conn{}, text + "* BYE too long\r\n"
		}
		var said string
		w.Engine, c.Imap, said = spoken(w.Engine, c.Imap, command)
		text, c.Buffer = text+said, rest
		if c.Imap.State == 0 {
			return impl.Conn{}, text
		}
	}
}

// readTo does what is whole in the buffer of a connection of NNTP, byte by byte.
func readTo(boxes []impl.Box, c impl.Conn) (impl.Conn, string) {
	text, begin := "", 0
	for i := range len(c.Buffer) {
		if i == begin || c.Buffer[i-1] != 13 || c.Buffer[i] != 10 {
			continue
		}
		var said string
		c.Nntp, said = heard(boxes, c.Nntp, c.Buffer[begin:i-1])
		text, begin = text+said, i+1
		if c.Nntp.Over {
			return impl.Conn{}, text
		}
	}
	if c.Buffer = c.Buffer[begin:]; len(c.Buffer) > 502 {
		return impl.Conn{}, text + "400 too long\r\n"
	}
	return c, text
}

func longEvent(e impl.Event) bool { return len(e.Box) > 65536 || len(e.Data) > 65536 }

// happenedStep is WorldStep once more.
func happenedStep(w impl.World, e impl.Event) (impl.World, impl.Told, int) {
	switch {
	case longEvent(e):
		return impl.World{}, impl.Told{}, impl.ErrLong
	case !rightWorld(w):
		return impl.World{}, impl.Told{}, impl.ErrBad
	}
	next, told := happened(w, e)
	return next, told, impl.OK
}

// happenedRun is WorldRun once more.
func happenedRun(room int, events []impl.Event) (impl.World, []impl.Told, int) {
	switch {
	case len(events) > 4096:
		return impl.World{}, nil, impl.ErrLong
	case room < 0 || room > 60000:
		return impl.World{}, nil, impl.ErrRange
	case len(events) > 120:
		return impl.World{}, nil, impl.ErrMany
	case slices.ContainsFunc(events, longEvent):
		return impl.World{}, nil, impl.ErrLong
	}
	w := impl.World{Engine: impl.Engine{Log: impl.Log{Room: room}}, Conns: make([]impl.Conn, 4)}
	all := make([]impl.Told, len(events))
	for i, e := range events {
		w, all[i] = happened(w, e)
	}
	return w, all, impl.OK
}

// sentOf is SayAll once more.
func sentOf(lines []string, kind int) ([]string, int) {
	switch {
	case len(lines) > 4096:
		return nil, impl.ErrLong
	case kind != 1 && kind != 2:
		return nil, impl.ErrBad
	}
	var sent []string
	for _, line := range lines {
		command, rest, code := takenOf(line + "\r\n")
		switch {
		case len(line) > 3998:
			return nil, impl.ErrRange
		case kind == 2 && !readPattern.MatchString(line), kind == 1 && (code != impl.OK || rest != "" || command != line):
			return nil, impl.ErrForm
		}
		sent = append(sent, line+"\r\n")
	}
	return sent, impl.OK
}

// checkWorldStep holds an event against the other world; it says what the program answers.
func checkWorldStep(t *testing.T, w impl.World, e impl.Event) (impl.World, impl.Told, int) {
	t.Helper()
	want, wantTold, wantCode := happenedStep(w, e)
	next, tell, code := impl.WorldStep(w, e)
	if tell != wantTold || code != wantCode || !sameAnswer(next, want) {
		t.Errorf("behind %s WorldStep of %s = %s, %s, %d, not %s, %s, %d", told(e), told(w), told(next), told(tell), code, told(want), told(wantTold), wantCode)
	}
	if code == impl.OK && (!impl.WorldOK(next) || !rightWorld(next)) {
		t.Errorf("behind %s the world %s is not right", told(e), told(next))
	}
	if tell.Code != impl.OK && (tell.Text != "" || !sameAnswer(next, w)) {
		t.Errorf("%s has the code %d, and changes something, or says %q", told(e), tell.Code, tell.Text)
	}
	return next, tell, code
}

func checkWorldStepCode(t *testing.T, w impl.World, e impl.Event, wantCode int) {
	t.Helper()
	next, tell, code := checkWorldStep(t, w, e)
	if code != wantCode || code != impl.OK && (tell != impl.Told{} || !sameAnswer(next, impl.World{})) {
		t.Errorf("WorldStep of %s, %s = %s, %s, %d, not %d", told(w), told(e), told(next), told(tell), code, wantCode)
	}
}

// checkWorldRun holds events against the other world; it says what the program answers.
func checkWorldRun(t *testing.T, room int, events []impl.Event) (impl.World, []impl.Told, int) {
	t.Helper()
	want, wantTold, wantCode := happenedRun(room, events)
	w, all, code := impl.WorldRun(room, events)
	if !slices.Equal(all, wantTold) || code != wantCode || !sameAnswer(w, want) {
		t.Errorf("WorldRun of %d, %s = %s, %s, %d, not %s, %s, %d", room, told(events), told(w), told(all), code, told(want), told(wantTold), wantCode)
	}
	return w, all, code
}

func checkWorldRunCode(t *testing.T, room int, events []impl.Event, wantCode int) {
	t.Helper()
	w, all, code := checkWorldRun(t, room, events)
	if code != wantCode || code == impl.OK && (len(all) != len(events) || !impl.WorldOK(w)) || code != impl.OK && (len(all) != 0 || !sameAnswer(w, impl.World{})) {
		t.Errorf("WorldRun of %d, %d events = %s, %d, %d, not %d", room, len(events), told(w), len(all), code, wantCode)
	}
}

// checkSent holds lines against the other ones; it says what the program answers.
func checkSent(t *testing.T, lines []string, kind int) ([]string, int) {
	t.Helper()
	want, wantCode := sentOf(lines, kind)
	sent, code := impl.SayAll(lines, kind)
	if !slices.Equal(sent, want) || code != wantCode {
		t.Errorf("SayAll of %s, %d = %.200q, %d, not %.200q, %d", told(briefWords(lines)), kind, sent, code, want, wantCode)
	}
	return sent, code
}

func checkSentCode(t *testing.T, lines []string, kind, wantCode int) {
	t.Helper()
	if sent, code := checkSent(t, lines, kind); code != wantCode || code != impl.OK && len(sent) > 0 {
		t.Errorf("SayAll of %s, %d = %.100q, %d, not %d", told(briefWords(lines)), kind, sent, code, wantCode)
	}
}

// A gate is a world at which events come, one after the other, and what is asked of each.
type gate struct {
	t *testing.T
	w impl.World
}

func newGate(t *testing.T, e impl.Engine) *gate {
	return &gate{t, impl.World{Engine: e, Conns: make([]impl.Conn, 4)}}
}

// do is what is told of an event.
func (g *gate) do(e impl.Event) impl.Told {
	g.t.Helper()
	next, tell, code := checkWorldStep(g.t, g.w, e)
	if code != impl.OK {
		g.t.Errorf("%s has the code %d", told(e), code)
	}
	g.w = next
	return tell
}

// ask asks for all that is told of an event.
func (g *gate) ask(e impl.Event, want impl.Told) {
	g.t.Helper()
	if tell := g.do(e); tell != want {
		g.t.Errorf("of %s is told %s, not %s", told(e), told(tell), told(want))
	}
}

// open is a connection that is opened.
func (g *gate) open(kind, conn int) {
	g.t.Helper()
	g.ask(impl.Event{Kind: kind, Conn: conn}, impl.Told{Conn: conn, Text: []string{"", "* OK ready\r\n", "201 ready\r\n"}[kind]})
	if g.w.Conns[conn].Kind != kind {
		g.t.Errorf("the connection is %s", told(g.w.Conns[conn]))
	}
}

// say asks for lines, the end of each being left out.
func (g *gate) say(conn int, data string, want ...string) {
	g.t.Helper()
	text := ""
	for _, line := range want {
		text += line + "\r\n"
	}
	g.ask(impl.Event{Kind: impl.GwBytes, Conn: conn, Data: data}, impl.Told{Conn: conn, Text: text})
}

// waits asks that a connection is open, and what it has not taken off yet.
func (g *gate) waits(conn int, buffer string) {
	g.t.Helper()
	if c := g.w.Conns[conn]; c.Kind == 0 || c.Buffer != buffer {
		g.t.Errorf("the connection is %s, %d bytes wait, not %d", told(c), len(c.Buffer), len(buffer))
	}
}

// closed asks that connections are, and have nothing.
func (g *gate) closed(conns ...int) {
	g.t.Helper()
	for _, conn := range conns {
		if c := g.w.Conns[conn]; !sameAnswer(c, impl.Conn{}) {
			g.t.Errorf("the connection %d is not closed: %s", conn, told(c))
		}
	}
}

// madeEvent is one of any kind, right or not, more of bytes than of others; the bytes are whole commands of either kind, or pieces of them.
func madeEvent(source *rand.Rand, w impl.World) impl.Event {
	e := impl.Event{Conn: source.Intn(4)}
	box := oneOf(source, "news", "news", "more", "none", "b9", "9b", "")
	switch source.Intn(30) {
	case 0:
		return impl.Event{Kind: source.Intn(12) - 2, Conn: source.Intn(8) - 2, Keep: source.Intn(100) - 10, Box: box, Data: oneOf(source, "", "x", "\r\n")}
	case 1:
		return impl.Event{Kind: impl.GwMake, Box: oneOf(source, "news", "more", "a", "b9", "c", "9", "")}
	case 2, 3, 4:
		return impl.Event{Kind: impl.GwPoll, Box: box, Data: madePoll(source)}
	case 5:
		return impl.Event{Kind: impl.GwCrash, Keep: source.Intn(1500) - 20, Box: box, Data: oneOf(source, "", madePoll(source), madePoll(source))}
	case 6, 7, 8:
		e.Kind = 1 + source.Intn(2)
		return e
	case 9:
		e.Kind = impl.GwClose
		return e
	}
	e.Kind = impl.GwBytes
	for range 1 + source.Intn(3) {
		if w.Conns[e.Conn].Kind == impl.GwNntp {
			e.Data += madeLineOfNews(source) + "\r\n"
		} else {
			e.Data += oneOf(source, "l login me feed", "s select news", madeCommandLine(source), madeCommandLine(source), madeCommandLine(source)) + "\r\n"
		}
	}
	if source.Intn(3) == 0 {
		e.Data = e.Data[:source.Intn(len(e.Data))]
	}
	if source.Intn(60) == 0 {
		e.Data += oneOf(source, "a {4001}\r\n", strings.Repeat("x", 503), strings.Repeat("x", 4001))
	}
	return e
}

func madePoll(source *rand.Rand) string {
	var ids []string
	for range source.Intn(4) {
		ids = append(ids, fmt.Sprint("id ", source.Intn(40)))
	}
	return oneOf(source, feedOfIds(ids...), itemsOfIds(ids...), feedOfIds(ids...), "<feed>", "x")
}
