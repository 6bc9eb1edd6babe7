package tests

import (
	"fmt"
	"math/rand"
	"regexp"
	"slices"
	"strconv"
	"strings"
	"testing"

	"loop.example/g00268/impl"
)

// Chapter 15 once more, byte by byte and by patterns, over the other readers of boxes and mails: what a session says is held against it.
var (
	runPattern     = regexp.MustCompile(` +`)
	readPattern    = regexp.MustCompile(`^[ -~]{0,500}$`)
	uidPattern     = regexp.MustCompile(`^(?:0|-?[1-9][0-9]{0,17})$`)
	spanPattern    = regexp.MustCompile(`^(0|[1-9][0-9]{0,17})(?:(-)(0|[1-9][0-9]{0,17}|))?$`)
	articlePattern = regexp.MustCompile(`^22([0123]) ([1-9][0-9]*) (.*)$`)
	knownPattern   = regexp.MustCompile(`^(?:CAPABILITIES|MODE|QUIT|LIST|GROUP|LISTGROUP|ARTICLE|HEAD|BODY|STAT|NEXT|LAST|OVER)$`)
	// Lines as they are when their first word is in great letters, one blank between the words.
	newsPattern = regexp.MustCompile(`^(?:CAPABILITIES|MODE (?i:READER)|QUIT|LIST|GROUP [^ ]+|(?:LISTGROUP|ARTICLE|HEAD|BODY|STAT|OVER)(?: [^ ]+)?|NEXT|LAST)$`)
)

// stuffedOf is DotStuff once more, byte by byte.
func stuffedOf(text string) (string, int) {
	switch {
	case len(text) > 32765:
		return "", impl.ErrLong
	case text != "" && !strings.HasSuffix(text, "\r\n"):
		return "", impl.ErrForm
	}
	return blockOf(text), impl.OK
}

func blockOf(lines string) string {
	var out []byte
	for i := range len(lines) {
		if lines[i] == '.' && (i == 0 || strings.HasSuffix(lines[:i], "\r\n")) {
			out = append(out, '.')
		}
		out = append(out, lines[i])
	}
	return string(out) + ".\r\n"
}

// unstuffedOf is DotUnstuff once more, byte by byte.
func unstuffedOf(text string) (string, int) {
	if len(text) > 65536 {
		return "", impl.ErrLong
	}
	var out []byte
	for i := range len(text) {
		if text[i] == '.' && (i == 0 || strings.HasSuffix(text[:i], "\r\n")) {
			rest := text[i+1:]
			if rest == "\r\n" {
				return string(out), impl.OK
			}
			if rest == "" || rest[0] != '.' {
				return "", impl.ErrForm
			}
			continue
		}
		out = append(out, text[i])
	}
	return "", impl.ErrMore
}

// overOf is OverLine once more.
func overOf(m impl.Stored) (string, int) {
	if m.Uid < 1 || m.Uid > 1000 {
		return "", impl.ErrBad
	}
	mail, code := mailOf(m.Text)
	if code != impl.OK {
		return "", impl.ErrForm
	}
	line := strconv.Itoa(m.Uid)
	for _, name := range []string{"subject", "from", "date", "message-id"} {
		value, _ := fieldOf(mail, name)
		line += "\t" + value
	}
	return fmt.Sprintf("%s\t\t%d\t%d", line, len(m.Text), strings.Count(mail.Body, "\n")), impl.OK
}

// rightReader is whether a session is right.
func rightReader(s impl.Nntp) bool {
	if s == (impl.Nntp{Over: true}) || s == (impl.Nntp{}) {
		return true
	}
	return !s.Over && boxPattern.MatchString(s.Group) && s.Now >= 0 && s.Now <= 1000
}

// A listener is a session, its boxes, and the words of the line that it is told.
type listener struct {
	boxes []impl.Box
	s     impl.Nntp
	name  string
	word  string
	said  string
}

func (k *listener) box(name string) (impl.Box, bool) {
	for _, b := range k.boxes {
		if b.Name == name {
			return b, true
		}
	}
	return impl.Box{}, false
}

// edges is the first and the last uid that are told of a box.
func edges(b impl.Box) (int, int) {
	if len(b.Mails) == 0 {
		return b.Next, b.Next - 1
	}
	return slices.Min(uidsOf(b)), slices.Max(uidsOf(b))
}

// do is the line that ends an answer that is none, or nothing.
func (k *listener) do() string {
	switch k.name {
	case "CAPABILITIES":
		k.said = "101 can\r\nVERSION 2\r\nREADER\r\nOVER\r\n.\r\n"
		return ""
	case "MODE":
		return "201 no posting"
	case "QUIT":
		k.s = impl.Nntp{Over: true}
		return "205 bye"
	case "LIST":
		k.said = "215 groups\r\n"
		for _, b := range k.boxes {
			low, high := edges(b)
			k.said += fmt.Sprintf("%s %d %d n\r\n", b.Name, high, low)
		}
		k.said += ".\r\n"
		return ""
	case "GROUP", "LISTGROUP":
		return k.choose()
	}
	b, there := k.box(k.s.Group)
	if !there {
		return "412 no group"
	}
	switch k.name {
	case "NEXT", "LAST":
		return k.walk(b)
	case "OVER":
		return k.over(b)
	}
	return k.article(b)
}

func (k *listener) choose() string {
	name, refusal := k.word, "411 no such group"
	if k.word == "" {
		name, refusal = k.s.Group, "412 no group"
	}
	b, there := k.box(name)
	if !there {
		return refusal
	}
	low, high := edges(b)
	k.s = impl.Nntp{Group: name}
	k.said = fmt.Sprintf("211 %d %d %d %s\r\n", len(b.Mails), low, high, name)
	uids := ""
	for i, m := range b.Mails {
		if i == 0 {
			k.s.Now = m.Uid
		}
		uids += fmt.Sprintln(m.Uid)
	}
	if k.name == "LISTGROUP" {
		k.said += strings.ReplaceAll(uids, "\n", "\r\n") + ".\r\n"
	}
	return ""
}

// tell makes a mail Now, and is the line that names it.
func (k *listener) tell(m impl.Stored, number int) string {
	k.s.Now = m.Uid
	mail, _ := mailOf(m.Text)
	id, _ := fieldOf(mail, "message-id")
	return fmt.Sprintf("%d %d %s\r\n", number, m.Uid, id)
}

func (k *listener) article(b impl.Box) string {
	uid, refusal := k.s.Now, "420 no article"
	if k.word != "" {
		if !uidPattern.MatchString(k.word) {
			return "501 no number"
		}
		fmt.Sscan(k.word, &uid)
		refusal = "423 no such number"
	}
	at := slices.Index(uidsOf(b), uid)
	if at < 0 {
		return refusal
	}
	m := b.Mails[at]
	octets, ok := partOf(m.Text, map[string]string{"HEAD": "HEADER", "BODY": "TEXT"}[k.name])
	if k.name == "HEAD" && ok {
		octets = octets[:len(octets)-2]
	}
	if !ok {
		octets = ""
	}
	k.said = k.tell(m, map[string]int{"ARTICLE": 220, "HEAD": 221, "BODY": 222, "STAT": 223}[k.name])
	if k.name != "STAT" {
		k.said += blockOf(octets)
	}
	return ""
}

func (k *listener) walk(b impl.Box) string {
	if k.s.Now == 0 {
		return "420 no article"
	}
	// Step by step away from Now, as far as uids go.
	way, refusal := 1, "421 no next"
	if k.name == "LAST" {
		way, refusal = -1, "422 no last"
	}
	for uid := k.s.Now + way; uid > 0 && uid <= 1000; uid += way {
		if at := slices.Index(uidsOf(b), uid); at >= 0 {
			k.said = k.tell(b.Mails[at], 223)
			return ""
		}
	}
	return refusal
}

func (k *listener) over(b impl.Box) string {
	from, to, refusal := k.s.Now, k.s.Now, "420 no article"
	if k.word != "" {
		found := spanPattern.FindStringSubmatch(k.word)
		if found == nil {
			return "501 no range"
		}
		from, _ = strconv.Atoi(found[1])
		to, refusal = from, "423 none"
		if found[2] != "" {
			to = 1 << 60
			fmt.Sscan(found[3], &to)
		}
	}
	lines := ""
	for _, m := range b.Mails {
		if line, code := overOf(m); m.Uid >= from && m.Uid <= to && code == impl.OK {
			lines += line + "\r\n"
		}
	}
	if lines == "" {
		return refusal
	}
	k.said = "224 overview\r\n" + lines + ".\r\n"
	return ""
}

// heard is what a session that is not over says to one line, and the session then.
func heard(boxes []impl.Box, s impl.Nntp, line string) (impl.Nntp, string) {
	if !readPattern.MatchString(line) {
		return s, "501 bad line\r\n"
	}
	line = strings.Trim(runPattern.ReplaceAllString(line, " "), " ")
	name, rest, _ := strings.Cut(line, " ")
	name = greatLetters.Replace(name)
	switch {
	case line == "":
		return s, "501 empty\r\n"
	case !knownPattern.MatchString(name):
		return s, "500 unknown\r\n"
	case !newsPattern.MatchString(strings.TrimSuffix(name+" "+rest, " ")):
		return s, "501 syntax\r\n"
	}
	k := listener{boxes: boxes, s: s, name: name, word: rest}
	if end := k.do(); end != "" {
		return k.s, end + "\r\n"
	}
	return k.s, k.said
}

// heardStep is NntpStep once more.
func heardStep(boxes []impl.Box, s impl.Nntp, line string) (impl.Nntp, string, int) {
	switch {
	case len(boxes) > 4096 || len(line) > 65536:
		return impl.Nntp{}, "", impl.ErrLong
	case !rightStore(boxes) || !rightReader(s):
		return impl.Nntp{}, "", impl.ErrBad
	case s.Over:
		return s, "", impl.ErrState
	}
	next, said := heard(boxes, s, line)
	return next, said, impl.OK
}

// heardRun is NntpRun once more.
func heardRun(boxes []impl.Box, lines []string) (string, int) {
	switch {
	case len(boxes) > 4096 || len(lines) > 4096:
		return "", impl.ErrLong
	case !rightStore(boxes):
		return "", impl.ErrBad
	case len(lines) > 60:
		return "", impl.ErrMany
	}
	s, all := impl.Nntp{}, ""
	for _, line := range lines {
		if !s.Over {
			next, said := heard(boxes, s, line)
			s, all = next, all+said
		}
	}
	return all, impl.OK
}

// checkStuffed holds the block of a text against the other one, and asks that the text is read back from it; it says the code.
func checkStuffed(t *testing.T, text string) int {
	t.Helper()
	want, wantCode := stuffedOf(text)
	block, code := impl.DotStuff(text)
	if block != want || code != wantCode {
		t.Errorf("DotStuff(%.200q) = %.200q, %d, not %.200q, %d", text, block, code, want, wantCode)
	}
	if code != impl.OK {
		return code
	}
	if back, code := impl.DotUnstuff(block); back != text || code != impl.OK {
		t.Errorf("%.200q is read back from %.200q as %.200q, %d", text, block, back, code)
	}
	return code
}

// checkUnstuffed holds what is read from a block against the other reader; it says it.
func checkUnstuffed(t *testing.T, block string) (string, int) {
	t.Helper()
	want, wantCode := unstuffedOf(block)
	text, code := impl.DotUnstuff(block)
	if text != want || code != wantCode {
		t.Errorf("DotUnstuff(%.200q) = %.200q, %d, not %.200q, %d", block, text, code, want, wantCode)
	}
	return text, code
}

// checkOnlyAtItsEnd asks that no beginning of a block is read, and nothing that has something behind it.
func checkOnlyAtItsEnd(t *testing.T, block string) {
	t.Helper()
	for n := range len(block) {
		begun := block[strings.LastIndex("\r\n"+block[:n], "\r\n"):n]
		want := impl.ErrMore
		if begun == "." || begun == ".\r" {
			want = impl.ErrForm
		}
		checkUnstuffedCode(t, block[:n], want)
	}
	for _, behind := range []string{".", "a", "\r", "\n", "\r\n", " ", "\x00", ".\r\n", "a\r\n.\r\n", block} {
		checkUnstuffedCode(t, block+behind, impl.ErrForm)
	}
}

func checkUnstuffedCode(t *testing.T, block string, wantCode int) {
	t.Helper()
	if text, code := checkUnstuffed(t, block); code != wantCode || code != impl.OK && text != "" {
		t.Errorf("DotUnstuff(%.200q) = %.200q, %d, not %d", block, text, code, wantCode)
	}
}

// checkOver holds an overview against the other one; it says it.
func checkOver(t *testing.T, m impl.Stored) (string, int) {
	t.Helper()
	want, wantCode := overOf(m)
	line, code := impl.OverLine(m)
	if line != want || code != wantCode {
		t.Errorf("OverLine of %s = %.400q, %d, not %.400q, %d", told(m), line, code, want, wantCode)
	}
	return line, code
}

func checkOverCode(t *testing.T, m impl.Stored, wantCode int) {
	t.Helper()
	if line, code := checkOver(t, m); code != wantCode || code != impl.OK && line != "" {
		t.Errorf("OverLine of %s = %.100q, %d, not %d", told(m), line, code, wantCode)
	}
}

// checkHeard holds a line of any session against the other one; it says what the program answers.
func checkHeard(t *testing.T, boxes []impl.Box, s impl.Nntp, line string) (impl.Nntp, string, int) {
	t.Helper()
	wantSession, want, wantCode := heardStep(boxes, s, line)
	next, said, code := impl.NntpStep(boxes, s, line)
	if said != want || next != wantSession || code != wantCode {
		t.Errorf("in %s %.200q gets %.600q, %s, %d, not %.600q, %s, %d", told(s), line, said, told(next), code, want, told(wantSession), wantCode)
	}
	if !rightReader(next) {
		t.Errorf("behind %.200q the session %s is not right", line, told(next))
	}
	return next, said, code
}

func checkHeardCode(t *testing.T, boxes []impl.Box, s impl.Nntp, line string, wantCode int) {
	t.Helper()
	if _, said, code := checkHeard(t, boxes, s, line); code != wantCode || code != impl.OK && said != "" {
		t.Errorf("NntpStep of %s, %s, %.100q = %.100q, %d, not %d", told(boxes), told(s), line, said, code, wantCode)
	}
}

// checkReadRun holds a run against the other one; it says what the program answers.
func checkReadRun(t *testing.T, boxes []impl.Box, lines []string) (string, int) {
	t.Helper()
	want, wantCode := heardRun(boxes, lines)
	said, code := impl.NntpRun(boxes, lines)
	if said != want || code != wantCode {
		t.Errorf("NntpRun of %s, %s = %.400q, %d, not %.400q, %d", told(boxes), told(briefWords(lines)), said, code, want, wantCode)
	}
	return said, code
}

func checkReadRunCode(t *testing.T, boxes []impl.Box, lines []string, wantCode int) {
	t.Helper()
	if said, code := checkReadRun(t, boxes, lines); code != wantCode || code != impl.OK && said != "" {
		t.Errorf("NntpRun of %s, %d lines = %.100q, %d, not %d", told(boxes), len(lines), said, code, wantCode)
	}
}

// A newsreader is who talks: it asks for one line after the other, and for what it gets.
type newsreader struct {
	t     *testing.T
	boxes []impl.Box
	s     impl.Nntp
}

func (n *newsreader) ask(line string) string {
	n.t.Helper()
	next, said, code := checkHeard(n.t, n.boxes, n.s, line)
	if code != impl.OK {
		n.t.Errorf("%.200q has the code %d", line, code)
	}
	n.s = next
	return said
}

// say asks for lines, the end of each being left out, and for where the session is then.
func (n *newsreader) say(line string, group string, now int, want ...string) {
	n.t.Helper()
	if said := n.ask(line); said != strings.Join(want, "\r\n")+"\r\n" {
		n.t.Errorf("%.200q gets %q, not %q", line, said, want)
	}
	if n.s != (impl.Nntp{Group: group, Now: now}) {
		n.t.Errorf("behind %.200q the session is %s, not at %s, %d", line, told(n.s), group, now)
	}
}

// madeLineOfNews is a line of a session, right or not.
func madeLineOfNews(source *rand.Rand) string {
	number := func() string {
		return oneOf(source, "1", "2", "3", "4", "5", "6", "0", "7", "60", "1000", "1001", "-1", "-", "x", "+1", "01", "999999999999999999", "1000000000000000000", "18446744073709551617", "<1@news>")
	}
	words := []string{oneOf(source, "article", "ARTICLE", "head", "Body", "stat", "STAT", "next", "NEXT", "last", "Last", "over", "OVER", "group", "listgroup", "ListGroup", "list", "mode", "capabilities", "post", "")}
	switch words[0] {
	case "article", "ARTICLE", "head", "Body", "stat", "STAT":
		if source.Intn(3) > 0 {
			words = append(words, number())
		}
	case "over", "OVER":
		words = append(words, oneOf(source, "", number(), number()+"-", number()+"-"+number(), "1-3", "2-", "-2", "1-2-3"))
	case "group", "listgroup", "ListGroup":
		words = append(words, oneOf(source, "news", "news", "more", "none_yet", "none", "News", ""))
	case "mode":
		words = append(words, oneOf(source, "reader", "READER", "stream", ""))
	}
	for source.Intn(12) == 0 {
		words = append(words, number())
	}
	line := strings.Repeat(" ", source.Intn(2)) + strings.Join(words, strings.Repeat(" ", 1+source.Intn(2))) + strings.Repeat(" ", source.Intn(2))
	if source.Intn(30) == 0 {
		line += oneOf(source, "\t", "\x7f", "\u00e4", "\r\n", strings.Repeat("x", 500))
	}
	return line
}
