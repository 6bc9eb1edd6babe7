package tests

import (
	"math/rand"
	"regexp"
	"strconv"
	"strings"
	"testing"

	"loop.example/g00268/impl"
)

// Chapter 17 once more, by patterns, over the other world: what a console says is held against it.

// A number's text, or the name of a box, is the first group of a pattern; what stands behind it the second one.
var linePatterns = map[int]*regexp.Regexp{
	1: regexp.MustCompile(`^ *imap +(0|-?[1-9][0-9]{0,17}) *$`),
	2: regexp.MustCompile(`^ *nntp +(0|-?[1-9][0-9]{0,17}) *$`),
	3: regexp.MustCompile(`(?s)^ *say +(0|-?[1-9][0-9]{0,17})(?: +([^ ].*?))? *$`),
	4: regexp.MustCompile(`^ *close +(0|-?[1-9][0-9]{0,17}) *$`),
	5: regexp.MustCompile(`(?s)^ *poll +([^ ]+) +([^ ].*?) *$`),
	6: regexp.MustCompile(`^ *make +([^ ]+) *$`),
	7: regexp.MustCompile(`^ *crash *$`),
}

var silentPattern = regexp.MustCompile(`^ *(?:#|$)`)

// eventOf is ReadLine once more.
func eventOf(line string) (impl.Event, int) {
	if len(line) > 32768 {
		return impl.Event{}, impl.ErrLong
	}
	for kind, pattern := range linePatterns {
		found := pattern.FindStringSubmatch(line)
		if found == nil {
			continue
		}
		e := impl.Event{Kind: kind}
		switch kind {
		case 1, 2, 4:
			e.Conn, _ = strconv.Atoi(found[1])
		case 3:
			e.Conn, _ = strconv.Atoi(found[1])
			e.Data = found[2] + "\r\n"
		case 5:
			e.Box, e.Data = found[1], found[2]
		case 6:
			e.Box = found[1]
		}
		return e, impl.OK
	}
	return impl.Event{}, impl.ErrForm
}

// scriptLines is the lines of a text, byte by byte.
func scriptLines(text string) []string {
	var lines []string
	line := ""
	for i := range len(text) {
		if text[i] != 10 {
			line += text[i : i+1]
			continue
		}
		lines = append(lines, line)
		line = ""
	}
	if line != "" {
		lines = append(lines, line)
	}
	return lines
}

// answeredTo is what is said to a line, and the world then.
func answeredTo(w impl.World, line string) (impl.World, string) {
	if silentPattern.MatchString(line) {
		return w, ""
	}
	e, code := eventOf(line)
	if code != impl.OK {
		return w, "error form\n"
	}
	next, tell := happened(w, e)
	said := strings.Join(strings.Split(tell.Text, "\r"), "")
	switch {
	case tell.Code != impl.OK:
		return next, "error " + impl.CodeWord(tell.Code) + "\n"
	case e.Kind == impl.GwPoll:
		return next, said + " new\n"
	case said == "":
		return next, "ok\n"
	case !strings.HasSuffix(said, "\n"):
		return next, said + "\n"
	}
	return next, said
}

func newConsoleWorld() impl.World {
	return impl.World{Engine: impl.Engine{Log: impl.Log{Room: 60000}}, Conns: make([]impl.Conn, 4)}
}

// consoleOf is Console once more: what is said to each of the lines.
func consoleOf(text string) ([]string, int) {
	if len(text) > 32768 {
		return nil, impl.ErrLong
	}
	lines := scriptLines(text)
	if len(lines) > 100 {
		return nil, impl.ErrMany
	}
	w := newConsoleWorld()
	said := make([]string, len(lines))
	for i, line := range lines {
		w, said[i] = answeredTo(w, line)
	}
	return said, impl.OK
}

// checkLineEvent holds a line against the other reader; it says what the program answers.
func checkLineEvent(t *testing.T, line string) (impl.Event, int) {
	t.Helper()
	want, wantCode := eventOf(line)
	e, code := impl.ReadLine(line)
	if e != want || code != wantCode {
		t.Errorf("ReadLine of %.100q = %s, %d, not %s, %d", line, told(e), code, told(want), wantCode)
	}
	return e, code
}

func checkEventSaid(t *testing.T, line string, want impl.Event) {
	t.Helper()
	if e, code := checkLineEvent(t, line); e != want || code != impl.OK {
		t.Errorf("ReadLine of %.100q = %s, %d, not %s", line, told(e), code, told(want))
	}
}

func checkNoEvent(t *testing.T, line string, wantCode int) {
	t.Helper()
	if e, code := checkLineEvent(t, line); code != wantCode || e != (impl.Event{}) {
		t.Errorf("ReadLine of %.100q = %s, %d, not %d", line, told(e), code, wantCode)
	}
}

// checkConsole holds a text against the other console; it says what the program answers.
func checkConsole(t *testing.T, text string) (string, int) {
	t.Helper()
	all, wantCode := consoleOf(text)
	want := strings.Join(all, "")
	said, code := impl.Console(text)
	if said != want || code != wantCode {
		t.Errorf("Console of %.1000q = %.1000q, %d, not %.1000q, %d", text, said, code, want, wantCode)
	}
	return said, code
}

// checkSaid asks for all that is said to a text, a byte 10 behind each of these.
func checkSaid(t *testing.T, text string, want ...string) {
	t.Helper()
	all := strings.Join(append(want, ""), "\n")
	if said, code := checkConsole(t, text); said != all || code != impl.OK {
		t.Errorf("Console of %.1000q = %.1000q, %d, not %.1000q", text, said, code, all)
	}
}

func checkNothingSaid(t *testing.T, text string, wantCode int) {
	t.Helper()
	if said, code := checkConsole(t, text); said != "" || code != wantCode {
		t.Errorf("Console of %d bytes, %.100q = %.100q, %d, not %d", len(text), text, said, code, wantCode)
	}
}

// inOneLine is a feed that says the same without a byte 10; what is none has another text then.
func inOneLine(feed string) string { return strings.ReplaceAll(feed, "\n", "&#10;") }

func blanks(source *rand.Rand, least int) string {
	return strings.Repeat(" ", least+max(0, source.Intn(6)-3))
}

// madeScriptLine is a line of any kind, with blanks ahead, behind and between, now and then wrong, or such that it says nothing.
func madeScriptLine(source *rand.Rand) string {
	n := strconv.Itoa(source.Intn(3))
	box := oneOf(source, "news", "news", "more", "none", "b9", "9b")
	var words []string
	switch source.Intn(24) {
	case 0:
		words = []string{oneOf(source, "", "#", "# make x", "#make", "\r", "\t", "go", "Make x", "SAY 0 a", "crash now", "poll", "say", "imap", "close x", "imap 01", "imap +1", "imap 9", "close -1", "make", "make a b", "poll news", "\x00")}
	case 1:
		words = []string{"make", oneOf(source, "news", "more", "a", "b9", "9")}
	case 2, 3, 4:
		words = []string{"poll", box, madePoll(source)}
	case 5:
		words = []string{"crash"}
	case 6, 7, 8:
		words = []string{"imap", n}
	case 9, 10:
		words = []string{"nntp", n}
	case 11:
		words = []string{"close", n}
	case 12:
		words = []string{"say", n}
	case 13, 14, 15, 16:
		words = []string{"say", n, oneOf(source, "l login me feed", "s select news", "group news", "quit", madeLineOfNews(source), madeLineOfNews(source))}
	default:
		words = []string{"say", n, madeCommandLine(source)}
	}
	line := blanks(source, 0) + words[0]
	for _, word := range words[1:] {
		line += blanks(source, 1) + word
	}
	return inOneLine(line) + blanks(source, 0)
}

// madeScript begins with a box, mails and sessions of both kinds.
func madeScript(source *rand.Rand, count int) []string {
	lines := []string{"make news", "poll news " + inOneLine(feedOfIds("a", "b", "c")), "imap 0", "say 0 a login me feed", "say 0 b select news", "nntp 1", "say 1 group news"}
	for range count {
		lines = append(lines, madeScriptLine(source))
	}
	return lines
}
