package tests

import (
	"fmt"
	"math/rand"
	"regexp"
	"strconv"
	"strings"
	"testing"

	"loop.example/g00268/impl"
)

// Chapter 13 once more, by patterns and byte by byte: what is asked of commands, their words and their texts is held against it.
const plainSigns = `[!#-'*-z|-~]`

var (
	followPattern = regexp.MustCompile(`\{(0|[1-9][0-9]{0,5})\}$`)
	countPattern  = regexp.MustCompile(`^\{(0|[1-9][0-9]{0,5})\}\r\n`)
	plainPattern  = regexp.MustCompile(`^` + plainSigns + `+`)
	tagPattern    = regexp.MustCompile(`^` + plainSigns + `{1,20}$`)
	quoteFinder   = regexp.MustCompile(`^"((?:[ !#-\[\]-~]|\\["\\])*)"`)
	guardPattern  = regexp.MustCompile(`\\(["\\])`)
	shownPattern  = regexp.MustCompile(`^[ -~]*$`)
	shortPattern  = regexp.MustCompile(`^[ -~]{0,200}$`)
	smallPattern  = regexp.MustCompile(`[a-z]`)
	listPattern   = regexp.MustCompile(`^\(` + plainSigns + `+(?: ` + plainSigns + `+){0,29}\)$`)
	bracketFinder = regexp.MustCompile(`\([^()]*\)`)
)

// takenOf is TakeCommand once more.
func takenOf(buffer string) (string, string, int) {
	if len(buffer) > 65536 {
		return "", buffer, impl.ErrLong
	}
	begin := 0
	for i := range max(0, len(buffer)-1) {
		if i > 4000 {
			return "", buffer, impl.ErrRange
		}
		if i < begin || buffer[i] != 13 || buffer[i+1] != 10 {
			continue
		}
		said := followPattern.FindStringSubmatch(buffer[begin:i])
		if said == nil {
			return buffer[:i], buffer[i+2:], impl.OK
		}
		size, _ := strconv.Atoi(said[1])
		begin = i + 2 + size
		if size > 4000 || begin > 4000 {
			return "", buffer, impl.ErrRange
		}
	}
	return "", buffer, impl.ErrMore
}

// endOfList is behind the bracket that matches the first one, 0 if there is none.
func endOfList(text string) int {
	// Of lists in lists the inner ones are blotted out until the first bracket goes.
	left := []byte(text)
	for left[0] == '(' {
		pairs := bracketFinder.FindAllIndex(left, -1)
		if pairs == nil {
			return 0
		}
		for _, pair := range pairs {
			left[pair[0]], left[pair[1]-1] = '#', '#'
			if pair[0] == 0 {
				return pair[1]
			}
		}
	}
	return 0
}

// wordOf is the first word of a text, of any sort, and what is behind it.
func wordOf(text string) (string, string, bool) {
	if strings.HasPrefix(text, "(") {
		end := endOfList(text)
		return text[:end], text[end:], end > 0 && shownPattern.MatchString(text[:end])
	}
	if said := quoteFinder.FindStringSubmatch(text); said != nil {
		return guardPattern.ReplaceAllString(said[1], "$1"), text[len(said[0]):], true
	}
	if said := countPattern.FindStringSubmatch(text); said != nil {
		size, _ := strconv.Atoi(said[1])
		behind := text[len(said[0]):]
		if size > len(behind) {
			return "", "", false
		}
		return behind[:size], behind[size:], true
	}
	plain := plainPattern.FindString(text)
	return plain, text[len(plain):], plain != ""
}

// commandOf is ParseCommand once more.
func commandOf(text string) (impl.Command, int) {
	if len(text) > 65536 {
		return impl.Command{}, impl.ErrLong
	}
	tag := plainPattern.FindString(text)
	left := text[len(tag):]
	if !tagPattern.MatchString(tag) {
		return impl.Command{}, impl.ErrForm
	}
	var words []string
	for left != "" {
		word, behind, ok := wordOf(strings.TrimPrefix(left, " "))
		if left[0] != ' ' || !ok {
			return impl.Command{}, impl.ErrForm
		}
		words, left = append(words, word), behind
	}
	if len(words) < 1 || len(words) > 31 || words[0] == "" {
		return impl.Command{}, impl.ErrForm
	}
	return impl.Command{Tag: tag, Name: greatLetters.Replace(words[0]), Args: words[1:]}, impl.OK
}

// quoteOf is QuoteText once more.
func quoteOf(text string) (string, int) {
	switch {
	case len(text) > 65536:
		return "", impl.ErrLong
	case shortPattern.MatchString(text):
		return `"` + strings.ReplaceAll(strings.ReplaceAll(text, `\`, `\\`), `"`, `\"`) + `"`, impl.OK
	}
	return fmt.Sprintf("{%d}\r\n%s", len(text), text), impl.OK
}

// rightName is a name that stands for itself: a plain word, or a list, in great letters.
func rightName(name string) bool {
	if name == "" || smallPattern.MatchString(name) || !shownPattern.MatchString(name) {
		return false
	}
	return plainPattern.FindString(name) == name || name[0] == '(' && endOfList(name) == len(name)
}

// commandText is CommandText once more.
func commandText(c impl.Command) (string, int) {
	text, size := c.Tag+" "+c.Name, 0
	for _, word := range c.Args[:min(len(c.Args), 31)] {
		quoted, _ := quoteOf(word)
		text, size = text+" "+quoted, size+len(word)
	}
	if len(c.Args) > 30 || size > 4000 || !tagPattern.MatchString(c.Tag) || len(text) > 65536 || !rightName(c.Name) {
		return "", impl.ErrBad
	}
	return text, impl.OK
}

// listOf is ListWords once more.
func listOf(text string) ([]string, int) {
	switch {
	case len(text) > 65536:
		return nil, impl.ErrLong
	case !listPattern.MatchString(text):
		return nil, impl.ErrForm
	}
	return strings.Split(text[1:len(text)-1], " "), impl.OK
}

// checkTake holds what is taken off a buffer against the other reader; it says it.
func checkTake(t *testing.T, buffer string) (string, string, int) {
	t.Helper()
	wantCommand, wantRest, wantCode := takenOf(buffer)
	command, rest, code := impl.TakeCommand(buffer)
	if command != wantCommand || rest != wantRest || code != wantCode {
		t.Errorf("TakeCommand(%.100q) of %d bytes = %.100q, %.100q, %d, not %.100q, %.100q, %d", buffer, len(buffer), command, rest, code, wantCommand, wantRest, wantCode)
	}
	return command, rest, code
}

// checkTaken asks for one command and what is behind it.
func checkTaken(t *testing.T, buffer, wantCommand, wantRest string) {
	t.Helper()
	if command, rest, code := checkTake(t, buffer); command != wantCommand || rest != wantRest || code != impl.OK {
		t.Errorf("TakeCommand(%.100q) of %d bytes = %.100q, %.100q, %d, not %.100q, %.100q", buffer, len(buffer), command, rest, code, wantCommand, wantRest)
	}
}

// checkNotTaken asks for a code, nothing and the buffer.
func checkNotTaken(t *testing.T, buffer string, wantCode int) {
	t.Helper()
	if command, rest, code := checkTake(t, buffer); command != "" || rest != buffer || code != wantCode {
		t.Errorf("TakeCommand(%.100q) of %d bytes = %.100q, %.100q, %d, not the code %d", buffer, len(buffer), command, rest, code, wantCode)
	}
}

func toldCommand(c impl.Command) string {
	return fmt.Sprintf("%.60q %.60q of %d words %.200q", c.Tag, c.Name, len(c.Args), briefWords(c.Args))
}

// checkParse holds a command's words against the other reader; it says them and the code.
func checkParse(t *testing.T, text string) (impl.Command, int) {
	t.Helper()
	want, wantCode := commandOf(text)
	c, code := impl.ParseCommand(text)
	if !sameAnswer(c, want) || code != wantCode {
		t.Errorf("ParseCommand(%.200q) = %s, %d, not %s, %d", text, toldCommand(c), code, toldCommand(want), wantCode)
	}
	return c, code
}

// checkParsed asks for a command's Tag, Name and words.
func checkParsed(t *testing.T, text, tag, name string, words ...string) {
	t.Helper()
	want := impl.Command{Tag: tag, Name: name, Args: words}
	if c, code := checkParse(t, text); !sameAnswer(c, want) || code != impl.OK {
		t.Errorf("ParseCommand(%.200q) = %s, %d, not %s", text, toldCommand(c), code, toldCommand(want))
	}
}

// checkNoCommand asks for a code and nothing else.
func checkNoCommand(t *testing.T, text string, wantCode int) {
	t.Helper()
	if c, code := checkParse(t, text); !sameAnswer(c, impl.Command{}) || code != wantCode {
		t.Errorf("ParseCommand(%.200q) = %s, %d, not the code %d", text, toldCommand(c), code, wantCode)
	}
}

// checkQuote holds a word's text against the other reader, and asks that it is read back.
func checkQuote(t *testing.T, word string) string {
	t.Helper()
	want, wantCode := quoteOf(word)
	text, code := impl.QuoteText(word)
	if text != want || code != wantCode {
		t.Errorf("QuoteText(%.200q) = %.200q, %d, not %.200q, %d", word, text, code, want, wantCode)
	}
	if c, code := checkParse(t, "a b "+text); len(word) < 60000 && (len(c.Args) != 1 || c.Args[0] != word || code != impl.OK) {
		t.Errorf("the text of %.200q is read as %s, %d", word, toldCommand(c), code)
	}
	return text
}

// checkCommandText holds a command's text against the other reader; one that has a text is read back from it, and taken off ahead of others.
func checkCommandText(t *testing.T, c impl.Command) (string, int) {
	t.Helper()
	want, wantCode := commandText(c)
	text, code := impl.CommandText(c)
	if text != want || code != wantCode {
		t.Errorf("CommandText of %s = %.200q, %d, not %.200q, %d", toldCommand(c), text, code, want, wantCode)
	}
	if code != impl.OK {
		return text, code
	}
	if back, code := checkParse(t, text); !sameAnswer(back, c) || code != impl.OK {
		t.Errorf("%s is read back as %s, %d", toldCommand(c), toldCommand(back), code)
	}
	for _, behind := range []string{"", "b", "\r\n", "\n", "{3}\r\n", text + "\r\n"} {
		buffer := text + "\r\n" + behind
		switch {
		case len(buffer) > 65536:
			checkNotTaken(t, buffer, impl.ErrLong)
		case len(text) > 4000:
			checkNotTaken(t, buffer, impl.ErrRange)
		default:
			checkTaken(t, buffer, text, behind)
		}
	}
	return text, code
}

// checkReadBack asks that a command has a text from which it is read back.
func checkReadBack(t *testing.T, tag, name string, words ...string) string {
	t.Helper()
	text, code := checkCommandText(t, impl.Command{Tag: tag, Name: name, Args: words})
	if code != impl.OK {
		t.Errorf("CommandText of %.60q %.60q %.200q has the code %d", tag, name, briefWords(words), code)
	}
	return text
}

// checkNoText asks for a command without a text.
func checkNoText(t *testing.T, tag, name string, words ...string) {
	t.Helper()
	c := impl.Command{Tag: tag, Name: name, Args: words}
	if text, code := checkCommandText(t, c); text != "" || code != impl.ErrBad {
		t.Errorf("CommandText of %s = %.200q, %d", toldCommand(c), text, code)
	}
}

// checkListWords holds the words of a list against the other reader; it says them and the code.
func checkListWords(t *testing.T, text string) ([]string, int) {
	t.Helper()
	want, wantCode := listOf(text)
	words, code := impl.ListWords(text)
	if !sameAnswer(words, want) || code != wantCode {
		t.Errorf("ListWords(%.200q) = %.200q, %d, not %.200q, %d", text, words, code, want, wantCode)
	}
	return words, code
}

// checkNoListWords asks for a code and no words.
func checkNoListWords(t *testing.T, text string, wantCode int) {
	t.Helper()
	if words, code := checkListWords(t, text); len(words) != 0 || code != wantCode {
		t.Errorf("ListWords(%.200q) = %.200q, %d, not the code %d", text, words, code, wantCode)
	}
}

// madeWord is a word of any bytes, by a rule.
func madeWord(source *rand.Rand) string {
	switch source.Intn(8) {
	case 0:
		return ""
	case 1:
		return oneOf(source, "(", ")", "()", "{", "}", "{3}", "{3}\r\n", "\"", "\\", "\\\"", "\"\"", " ", "\r", "\n", "\r\n", "\r\n{0}", "x{1}", "(a b)", "\\x", "\x00", "\x1f", "\x7f", "\x80", "\xff", "\u00e4", "~", "1:*")
	case 2:
		return string(fromSigns("ab(){}\"\\ 0123\r\n", source.Intn(40), source.Int()))
	case 3:
		return string(fromSigns("ab(){}\"\\ !~", []int{199, 200, 201, 202}[source.Intn(4)], source.Int()))
	case 4:
		return string(madeBytes(source.Intn(300), source.Int()))
	}
	return oneOf(source, "me", "feed", "INBOX", "1:*", "(flags uid)", "+FLAGS.SILENT", "BODY[]", "a b")
}

// madeCommand is a command of n words that has a text of at most 4000 bytes.
func madeCommand(source *rand.Rand, n int) impl.Command {
	for {
		c := impl.Command{Tag: oneOf(source, "a", "A1", "*", "+", "\\", "}", "t}", strings.Repeat("t", 20), string(fromSigns("!#$%&'*+,-./09:;<=>?@AZ[\\]^_`az|}~", 1+source.Intn(20), source.Int()))), Name: oneOf(source, "X", "NOOP", "UID", "}", "\\", "1:*", "(A B)", "()", "((X))", string(fromSigns("!#$%&'*+,-./09:;<=>?@AZ[\\]^_`|}~", 1+source.Intn(30), source.Int())))}
		for range n {
			c.Args = append(c.Args, madeWord(source))
		}
		if text, code := commandText(c); code == impl.OK && len(text) <= 4000 {
			return c
		}
	}
}
