package tests

import (
	"fmt"
	"math/rand"
	"slices"
	"strings"
	"testing"

	"loop.example/g00268/impl"
)

func TestBoundsOfCommands(t *testing.T) {
	if impl.MaxCommand != 4000 || impl.MaxArgs != 30 {
		t.Error("the bounds are", impl.MaxCommand, impl.MaxArgs)
	}
}

func TestTakenCommands(t *testing.T) {
	for _, command := range []string{
		"", "a", "a noop", " ", "a \"b", "a (b", "a )", "\x00\xff", "\r", "\n", "\n\r", "a\rb", "a\nb", "\r\r", "a noop\r",
		"{", "}", "{}", "{a}", "a {x}", "a {3", "a 3}", "a {3} ", "a {3}\"", "\"{3}\"", "({3})", "a {3}x", "{3}{", "{3}}", "{{3}}", "a [3]", "{ 3}", "{3 }", "{1,2}", "{3+}", "{+3}", "{-3}", "{-0}", "{+0}", "{00}", "{01}", "{007}", "{000000}", "{000001}", "{0000000}", "{1000000}", "{0000003}", "{4294967299}", "{18446744073709551619}", "{99999999999999999999999}", "{0x1}", "{1e1}", "{1_0}", "{\xff}", "{\u0663}", "{3\r}", "{3}\r", "{3}\n", "{\n3}",
	} {
		for _, behind := range []string{"", "b", "\r", "\n", "\r\n", "b noop\r\n", "{3}\r\nabc\r\n", "\r\n{4001}\r\n", strings.Repeat("x", 5000), strings.Repeat("x\r\n", 5000)} {
			checkTaken(t, command+"\r\n"+behind, command, behind)
		}
		checkNotTaken(t, command, impl.ErrMore)
		checkNotTaken(t, command+"\r", impl.ErrMore)
	}
	for n := range 7 {
		signsOf("{1}\r\na", n, func(x string) { checkTake(t, x) })
	}
	for n := range 5 {
		signsOf("{012}\r\n ", n, func(x string) {
			checkTake(t, x+"\r\nabc\r\n")
			checkTake(t, "{2"+x+"\r\nabc\r\n\r\n")
		})
	}
	changed("a b {2}\r\n\r\n c\r\nd", func(x string) { checkTake(t, x) })
}

// What is counted is no line: neither what looks like an end there, nor like a number of what follows, says anything.
func TestWhatFollowsALine(t *testing.T) {
	for _, word := range []string{
		"", "a", "\r", "\n", "\r\n", "\r\n\r\n", "{", "}", "{}", "{0}", "{1}", "{3}", "{3}\r\n", "\r\n{3}", "\r\n{3}\r\n", "{4001}", "{999999}", "x {5000}\r\n", "{2", "{1}\r", "a noop\r\nb noop\r\n", "\x00", "\xff\xfe", "\"", "(", "\\", strings.Repeat("\r\n", 100), strings.Repeat("{9}\r\n", 100),
	} {
		said := fmt.Sprintf("{%d}\r\n%s", len(word), word)
		for _, head := range []string{"", "a ", "a b ", "{", "}", "a {3}", "{1}\r", "\"", "(", "\n"} {
			for _, more := range []string{"", " c", "}", "3}", "\n", "\r", "{", " {x}", " \"{3}\"", " {1}\r\n{", " {3}\r\n{3}", said, " " + said + said} {
				whole := head + said + more
				for _, behind := range []string{"", "b", "\n", "\r\n", "{3}\r\n"} {
					checkTaken(t, whole+"\r\n"+behind, whole, behind)
				}
				for size := range len(whole) + 2 {
					checkNotTaken(t, (whole + "\r\n")[:size], impl.ErrMore)
				}
			}
		}
	}
}

func TestNumbersOfWhatFollows(t *testing.T) {
	for _, n := range []int{0, 1, 2, 9, 10, 11, 99, 100, 999, 1000, 3000, 3980} {
		sign := fmt.Sprintf("a b {%d}\r\n", n)
		for _, word := range []string{strings.Repeat("x", n), strings.Repeat("\r\n", n)[:n], strings.Repeat("\n", n), string(madeBytes(n, n))} {
			checkTaken(t, sign+word+"\r\nbehind", sign+word, "behind")
			checkTaken(t, sign+word+" c\r\n\r\n", sign+word+" c", "\r\n")
			checkNotTaken(t, sign+word, impl.ErrMore)
			checkNotTaken(t, sign+word+"\r", impl.ErrMore)
			if n > 0 {
				checkNotTaken(t, sign+word[:n-1], impl.ErrMore)
			}
		}
		checkNotTaken(t, sign, impl.ErrMore)
		checkNotTaken(t, sign[:len(sign)-1], impl.ErrMore)
	}
	// A number is above the bound, or what follows would end behind it, however much has come.
	for _, n := range []string{"4000", "4001", "3999", "9999", "10000", "65535", "65536", "100000", "999999"} {
		for _, behind := range []string{"", "x", strings.Repeat("x", 3990), strings.Repeat("x", 60000), "\r\n", "x\r\n"} {
			checkNotTaken(t, "{"+n+"}\r\n"+behind, impl.ErrRange)
			checkNotTaken(t, "a b {1}\r\nc {"+n+"}\r\n"+behind, impl.ErrRange)
		}
		checkNotTaken(t, "{"+n+"}\r", impl.ErrMore)
		checkNotTaken(t, "{"+n+"}", impl.ErrMore)
		checkTaken(t, "{"+n+"} \r\n", "{"+n+"} ", "")
		checkTaken(t, "{0"+n+"}\r\n", "{0"+n+"}", "")
		checkTaken(t, "{3"+n+"000}\r\nb", "{3"+n+"000}", "b")
		checkTaken(t, "{1}\r\na {-"+n+"}\r\nb", "{1}\r\na {-"+n+"}", "b")
	}
}

func TestPlacesOfEnds(t *testing.T) {
	for _, sign := range []string{"x", " ", "\x00", "\xff", "\r", "\n", "{", "}"} {
		for _, size := range []int{3990, 3998, 3999, 4000} {
			line := strings.Repeat(sign, size)
			for _, behind := range []string{"", "b", "\r\n", strings.Repeat("x", 61000)} {
				checkTaken(t, line+"\r\n"+behind, line, behind)
			}
			checkNotTaken(t, line, impl.ErrMore)
			checkNotTaken(t, line+"\r", impl.ErrMore)
		}
		for _, size := range []int{4001, 4002, 4003, 5000, 65534} {
			line := strings.Repeat(sign, size)
			checkNotTaken(t, line+"\r\n", impl.ErrRange)
			if size < 65000 {
				checkNotTaken(t, line+"\r\nb\r\n", impl.ErrRange)
			}
		}
	}
	// Without an end two bytes more than a command has may wait.
	for _, sign := range []string{"x", "\x00", "\r", "\n"} {
		for size := 3995; size <= 4010; size++ {
			code := impl.ErrMore
			if size > 4002 {
				code = impl.ErrRange
			}
			checkNotTaken(t, strings.Repeat(sign, size), code)
			checkNotTaken(t, "a {5}\r\n\r\n\r\n\r"+strings.Repeat(sign, size-12), code)
			checkNotTaken(t, strings.Repeat(sign, size-1)+"\r", code)
		}
		checkNotTaken(t, strings.Repeat(sign, 65536), impl.ErrRange)
	}
	checkNotTaken(t, strings.Repeat("x", 4001)+"\r", impl.ErrMore)
	checkNotTaken(t, strings.Repeat("x", 4001)+"\r\n", impl.ErrRange)
}

func TestEndsOfWhatFollows(t *testing.T) {
	for _, n := range []int{0, 1, 7, 50, 500, 3000} {
		sign := fmt.Sprintf("{%d}\r\n", n)
		word := strings.Repeat("w", n)
		for end := 3990; end <= 4010; end++ {
			head := strings.Repeat("x", end-n-len(sign)) + sign
			if end > 4000 {
				for _, behind := range []string{"", word, word + "\r\n", word + " c\r\n", strings.Repeat("w", 5000)} {
					checkNotTaken(t, head+behind, impl.ErrRange)
				}
				continue
			}
			checkTaken(t, head+word+"\r\nb", head+word, "b")
			checkNotTaken(t, head, impl.ErrMore)
			checkNotTaken(t, head+word, impl.ErrMore)
			checkNotTaken(t, head+word+"\r", impl.ErrMore)
			// The line goes on up to the bound.
			more := strings.Repeat("m", 4000-end)
			checkTaken(t, head+word+more+"\r\nb", head+word+more, "b")
			checkNotTaken(t, head+word+more+"m", impl.ErrMore)
			checkNotTaken(t, head+word+more+"m\r\n", impl.ErrRange)
		}
	}
	// A sum of many that follow is bounded likewise.
	many := strings.Repeat("{2}\r\n\r\n", 571)
	checkTaken(t, many+"x\r\n", many+"x", "")
	checkTaken(t, many+"xyz\r\n\r\n", many+"xyz", "\r\n")
	checkNotTaken(t, many+"xyzu\r\n", impl.ErrRange)
	checkNotTaken(t, many+"{2}\r\n\r\n", impl.ErrRange)
	checkNotTaken(t, strings.Repeat("{0}\r\n", 800), impl.ErrMore)
	checkTaken(t, strings.Repeat("{0}\r\n", 800)+"\r\n", strings.Repeat("{0}\r\n", 800), "")
	checkNotTaken(t, strings.Repeat("{0}\r\n", 801), impl.ErrRange)
}

// takeAll takes commands off until one is not whole; it says them, what is left and the last code.
func takeAll(buffer string) ([]string, string, int) {
	var list []string
	for {
		command, rest, code := impl.TakeCommand(buffer)
		if code != impl.OK {
			return list, rest, code
		}
		list, buffer = append(list, command), rest
	}
}

// checkPieces hands commands in, in pieces, and asks that they are taken off as they were, each as soon as its last byte has come.
func checkPieces(t *testing.T, commands []string, pieces ...string) {
	t.Helper()
	var taken []string
	buffer, come := "", 0
	for _, piece := range pieces {
		come += len(piece)
		list, rest, code := takeAll(buffer + piece)
		taken, buffer = append(taken, list...), rest
		whole, size := 0, 0
		for whole < len(commands) && size+len(commands[whole])+2 <= come {
			size += len(commands[whole]) + 2
			whole++
		}
		if code != impl.ErrMore || len(taken) != whole || len(buffer) != come-size {
			t.Fatalf("behind %d bytes of %.200q in pieces of %.60q: %d are taken off, %d bytes are left, the code is %d", come, briefWords(commands), pieces[0], len(taken), len(buffer), code)
		}
	}
	if !slices.Equal(taken, commands) || buffer != "" {
		t.Errorf("%.200q in pieces of %.60q: %.200q are taken off, %.60q is left", briefWords(commands), pieces[0], briefWords(taken), buffer)
	}
}

func TestCommandsInPieces(t *testing.T) {
	source := rand.New(rand.NewSource(13))
	for round := range 150 {
		var commands []string
		for range 1 + source.Intn(4) {
			text, code := impl.CommandText(madeCommand(source, source.Intn(6)))
			if code != impl.OK {
				t.Error("a made command has the code", code)
			}
			commands = append(commands, text)
		}
		if round%3 == 0 {
			commands = append(commands, "", "a {2}\r\n{1} b {3}\r\n\r\n{}", "\r", "")
		}
		all := strings.Join(commands, "\r\n") + "\r\n"
		for i := range len(all) + 1 {
			checkPieces(t, commands, all[:i], all[i:])
		}
		for _, size := range []int{1, 2, 3, 7, 50} {
			var pieces []string
			for piece := range slices.Chunk([]byte(all), size) {
				pieces = append(pieces, string(piece))
			}
			checkPieces(t, commands, pieces...)
		}
		cuts := []int{0, len(all)}
		for range 6 {
			cuts = append(cuts, source.Intn(len(all)))
		}
		slices.Sort(cuts)
		var pieces []string
		for i := range cuts[1:] {
			pieces = append(pieces, all[cuts[i]:cuts[i+1]])
		}
		checkPieces(t, commands, pieces...)
	}
	// Many come at once.
	text := checkReadBack(t, "a", "X", "\r\n{1}", "b")
	commands := slices.Repeat([]string{text}, 2000)
	checkPieces(t, commands, strings.Join(commands, "\r\n")+"\r\n")
}

func TestParsedCommands(t *testing.T) {
	checkParsed(t, "a noop", "a", "NOOP")
	checkParsed(t, "a1 uid Fetch 1:* (flags body[]) \"q \\\" \\\\\" {3}\r\n\r\nx {0}\r\n", "a1", "UID", "Fetch", "1:*", "(flags body[])", "q \" \\", "\r\nx", "")
	checkParsed(t, "* +", "*", "+")
	checkParsed(t, "} }", "}", "}")
	checkParsed(t, "\\ \\", "\\", "\\")
	checkParsed(t, "Z z", "Z", "Z")
	checkParsed(t, "a b \"\"", "a", "B", "")
	checkParsed(t, "a b \"\" \"\"", "a", "B", "", "")
	checkParsed(t, "a b {0}\r\n", "a", "B", "")
	checkParsed(t, "a b {0}\r\n {0}\r\n c", "a", "B", "", "", "c")
	checkParsed(t, "a b {5}\r\n a b  {1}\r\n\" c", "a", "B", " a b ", "\"", "c")
	checkParsed(t, "a b {9}\r\n\r\n{3}\r\n\x00\xff x}", "a", "B", "\r\n{3}\r\n\x00\xff", "x}")
	checkParsed(t, "a b ()", "a", "B", "()")
	checkParsed(t, "a b ( )", "a", "B", "( )")
	checkParsed(t, "a b (()) ((a) (b (c)) ) (\"{\\)", "a", "B", "(())", "((a) (b (c)) )", "(\"{\\)")
	checkParsed(t, "a b (a  b )", "a", "B", "(a  b )")
	checkParsed(t, "a b ({3})", "a", "B", "({3})")
	checkParsed(t, "a b (\"(\" c)) d", "a", "B", "(\"(\" c))", "d")
	checkParsed(t, "a b \"(\" \")\" \"{3}\" \"\\\\\\\"\"", "a", "B", "(", ")", "{3}", "\\\"")
	checkParsed(t, "a b 1} c\\d \\Seen +FLAGS.SILENT BODY.PEEK[TEXT]", "a", "B", "1}", "c\\d", "\\Seen", "+FLAGS.SILENT", "BODY.PEEK[TEXT]")
	// A name is a word of any sort, in great letters; the words behind it stay as they are.
	checkParsed(t, "aB @cDeFz` cD", "aB", "@CDEFZ`", "cD")
	checkParsed(t, "a \"no op\" x", "a", "NO OP", "x")
	checkParsed(t, "a {6}\r\nno\r\nop x", "a", "NO\r\nOP", "x")
	checkParsed(t, "a {2}\r\n\u00e4", "a", "\u00e4")
	checkParsed(t, "a {4}\r\n\xffz{@", "a", "\xffZ{@")
	checkParsed(t, "a (b (c))", "a", "(B (C))")
	checkParsed(t, "a () ()", "a", "()", "()")
}

func TestNoCommands(t *testing.T) {
	for _, text := range []string{
		"", " ", "a", "a ", "a  b", " a b", "a b ", "a b  c", "a b c ", "  ", " a", "a\tb", "a\r\nb", "a b\r\n", "a b\r", "a b\n", "\r\n", "a \r\n", "a b c\r\nd", "a b \r\n",
		"a \"\"", "a {0}\r\n", "\"a\" b", "(a) b", "{1}\r\na b", "\"\" b", "() b", "a\" b", "a( b", "a) b", "a{ b", "a{1} b",
		"a \"b", "a b \"", "a b \"c", "a b \"c\\", "a b \"c\\\"", "a b \"\\x\"", "a b \"\\ \"", "a b \"\\(\"", "a b \"\\\x00\"", "a b \"c\"d", "a b \"c\"\"d\"", "a b \"c\"(d)", "a b c\"d\"", "a b c\"", "a b \"\\\\\\\"", "a b \"\r\n\"", "a b \"\x1f\"", "a b \"\x7f\"", "a b \"\x80\"", "a b \"\u00e4\"",
		"a b (", "a b (c", "a b )", "a b ())", "a b (()", "a b c)", "a b (c)d", "a b c(d)", "a b (c)(d)", "a b (c)\"d\"", "a b (\r\n)", "a b (\x00)", "a b (\x1f)", "a b (\x7f)", "a b (\xff)", "a b ({1}\r\nc)", "a b )(", "a (b", "a b)",
		"a b {", "a b }{", "a b {3", "a b {3}", "a b {3}\r", "a b {3}\n", "a b {3}\r\n", "a b {3}\r\nx", "a b {3}\r\nxy", "a b {3}\r\nxyzu", "a b {3}\r\nxyz ", "a b {3}\r\nxyz  u", "a b {3}x\r\nxyz", "a b {03}\r\nxyz", "a b {+3}\r\nxyz", "a b {-0}\r\n", "a b {-3}\r\nxyz", "a b {00}\r\n", "a b { 3}\r\nxyz", "a b {3 }\r\nxyz", "a b {3}\n\nxyz", "a b {}\r\n", "a b {x}\r\n", "a b {3+}\r\nxyz", "a b {0000003}\r\nxyz", "a b c{3}\r\nxyz", "a b {{3}\r\nxyz", "a b {1}{1}\r\nx", "a b {18446744073709551619}\r\nxyz", "a b {4294967299}\r\nxyz", "a b {999999}\r\nxyz", "a b {1000000}\r\nxyz",
		"a b c{d", "a b {c}", "a b \u00e4", "a b \x80", "a b \x7f", "a b c\x1f", "a b\x80", "\x80 b", "\u00e4 b", "a\x00 b", "a b c\x00",
		"123456789012345678901 b", strings.Repeat("t", 21) + " b", strings.Repeat("t", 100) + " b",
	} {
		checkNoCommand(t, text, impl.ErrForm)
	}
	for n := range 6 {
		signsOf("a (\")\\", n, func(x string) { checkParse(t, "t n "+x) })
		signsOf("a {1}\r\n", n, func(x string) { checkParse(t, "t n "+x) })
		signsOf("a \"(", n, func(x string) { checkParse(t, x) })
	}
	changed("a b (c) \"d\\\"\" {2}\r\n\r\n e", func(x string) { checkParse(t, x) })
}

func TestBytesOfCommands(t *testing.T) {
	for c := range 256 {
		one := string([]byte{byte(c)})
		plain := c > 32 && c < 127 && !strings.Contains("(){\"", one)
		for _, text := range []string{one + " b", "a" + one + " b", one + "a b", "a " + one, "a b" + one, "a b " + one, "a b c" + one, "a b " + one + "c", "a b c" + one + "d"} {
			_, code := checkParse(t, text)
			if plain != (code == impl.OK) && one != " " {
				t.Errorf("ParseCommand(%q) has the code %d", text, code)
			}
		}
		shown := c >= 32 && c <= 126
		_, quoted := checkParse(t, "a b \"x"+one+"y\"")
		_, guarded := checkParse(t, "a b \"\\"+one+"\"")
		_, listed := checkParse(t, "a b (x"+one+"y)")
		if (quoted == impl.OK) != (shown && one != "\"" && one != "\\") || (guarded == impl.OK) != (one == "\\" || one == "\"") || (listed == impl.OK) != (shown && one != "(" && one != ")") {
			t.Errorf("words with %q have the codes %d, %d, %d", one, quoted, guarded, listed)
		}
		checkParsed(t, "a b {1}\r\n"+one, "a", "B", one)
		checkParsed(t, "a b {3}\r\n"+one+one+one+" c", "a", "B", one+one+one, "c")
		_, listed = checkListWords(t, "("+one+" b)")
		if plain != (listed == impl.OK) {
			t.Errorf("a list with %q has the code %d", one, listed)
		}
		checkQuote(t, one)
		checkQuote(t, "a"+one+"b")
		checkReadBack(t, "a", "B", one, "c"+one, one+one)
	}
}

func TestTagsAndCounts(t *testing.T) {
	for size := 1; size <= 25; size++ {
		tag := strings.Repeat("t", size)
		if size <= 20 {
			checkParsed(t, tag+" n c", tag, "N", "c")
			checkReadBack(t, tag, "N", "c")
			continue
		}
		checkNoCommand(t, tag+" n c", impl.ErrForm)
		checkNoText(t, tag, "N", "c")
	}
	for n := range 40 {
		for _, word := range []string{"c", "()", "\"\"", "{0}\r\n", "{1}\r\n ", "(a b)"} {
			text := "a b" + strings.Repeat(" "+word, n)
			c, code := checkParse(t, text)
			if n <= 30 && (len(c.Args) != n || code != impl.OK) || n > 30 && code != impl.ErrForm {
				t.Errorf("ParseCommand of %d words %q has %d and the code %d", n, word, len(c.Args), code)
			}
		}
		for _, word := range []string{"", "c", "\r\n", "(", strings.Repeat("w", 100)} {
			words := slices.Repeat([]string{word}, n)
			if n <= 30 {
				checkReadBack(t, "a", "B", words...)
			} else {
				checkNoText(t, "a", "B", words...)
			}
		}
	}
	// A name has no bound of its own.
	for _, size := range []int{20, 21, 41, 200, 201, 4000, 4001, 60000} {
		name := strings.Repeat("N", size)
		checkParsed(t, "a "+strings.Repeat("n", size)+" c", "a", name, "c")
		checkReadBack(t, "a", name, "c")
	}
	checkReadBack(t, "a", strings.Repeat("N", 65534))
	checkNoText(t, "a", strings.Repeat("N", 65535))
	checkReadBack(t, "a", strings.Repeat("N", 65531), "")
	checkNoText(t, "a", strings.Repeat("N", 65532), "")
	checkNoText(t, "a", endlessText)
	checkNoText(t, endlessText, "N")
	checkNoText(t, longText, longText, longText)
}

func TestCommandsAreReadBack(t *testing.T) {
	source := rand.New(rand.NewSource(14))
	for n := range 31 {
		for range 20 {
			c := madeCommand(source, n)
			checkReadBack(t, c.Tag, c.Name, c.Args...)
		}
	}
	var every []byte
	for c := range 256 {
		every = append(every, byte(c))
	}
	for _, word := range []string{
		"", "a", " ", "  ", "\r\n", "\r", "\n", "(", ")", "()", "(a b)", "\"", "\"\"", "\\", "\\\\", "\\\"", "\"\\", "{", "}", "{3}", "{3}\r\n", "\r\n{3}", " a", "a ", "a b", "\x00", "\x1f", "\x7f", "\x80", "\u00e4", "\xff", string(every),
		strings.Repeat("w", 199), strings.Repeat("w", 200), strings.Repeat("w", 201), strings.Repeat("\"", 200), strings.Repeat("\\", 200), strings.Repeat("\"", 201), strings.Repeat("\u00e4", 100), strings.Repeat(" ", 200), strings.Repeat(" ", 201), strings.Repeat("w", 199) + "\n", strings.Repeat("w", 3900), strings.Repeat("\r\n", 1900),
	} {
		checkReadBack(t, "a", "B", word)
		checkReadBack(t, "a", "B", "c", word, "d")
		checkQuote(t, word)
	}
}

func TestQuotedWords(t *testing.T) {
	for word, want := range map[string]string{
		"": "\"\"", "a": "\"a\"", " ": "\" \"", "a \"b\" \\": "\"a \\\"b\\\" \\\\\"", "\\\"": "\"\\\\\\\"\"", "()": "\"()\"", "{3}": "\"{3}\"", "~": "\"~\"", "\u00e4": "{2}\r\n\u00e4", "a\r\n": "{3}\r\na\r\n", "\x1f": "{1}\r\n\x1f", "\x7f": "{1}\r\n\x7f", "\x00": "{1}\r\n\x00",
		strings.Repeat("w", 200): "\"" + strings.Repeat("w", 200) + "\"", strings.Repeat("w", 201): "{201}\r\n" + strings.Repeat("w", 201), strings.Repeat("\\", 200): "\"" + strings.Repeat("\\\\", 200) + "\"", strings.Repeat("\"", 201): "{201}\r\n" + strings.Repeat("\"", 201), strings.Repeat("w", 199) + "\x80": "{200}\r\n" + strings.Repeat("w", 199) + "\x80",
		strings.Repeat("w", 4001): "{4001}\r\n" + strings.Repeat("w", 4001), fullText: "{65536}\r\n" + fullText,
	} {
		if text := checkQuote(t, word); text != want {
			t.Errorf("QuoteText(%.60q) = %.60q", word, text)
		}
	}
	for n := range 6 {
		signsOf("a\"\\ \r{", n, func(x string) { checkQuote(t, x) })
	}
	// A counted word is as long as a text lets it be; only what is taken off a buffer is shorter.
	for _, n := range []int{3999, 4000, 4001, 9999, 10000, 65000} {
		word := strings.Repeat("w", n)
		checkParsed(t, fmt.Sprintf("a b {%d}\r\n%s c", n, word), "a", "B", word, "c")
		checkNoCommand(t, fmt.Sprintf("a b {%d}\r\n%s", n+1, word), impl.ErrForm)
		checkNoCommand(t, fmt.Sprintf("a b {%d}\r\n%s", n-1, word), impl.ErrForm)
	}
}

func TestTextsOfCommands(t *testing.T) {
	for want, c := range map[string]impl.Command{
		"t LOGIN \"me\" {2}\r\n\r\n": {Tag: "t", Name: "LOGIN", Args: []string{"me", "\r\n"}}, "a NOOP": {Tag: "a", Name: "NOOP"}, "a X \"\"": {Tag: "a", Name: "X", Args: []string{""}}, "A1 1:* \"(a b)\" \"c d\"": {Tag: "A1", Name: "1:*", Args: []string{"(a b)", "c d"}}, "* } \"\\\\\"": {Tag: "*", Name: "}", Args: []string{"\\"}}, "a (A B) \"c\"": {Tag: "a", Name: "(A B)", Args: []string{"c"}}, "a ()": {Tag: "a", Name: "()"},
	} {
		if text, code := checkCommandText(t, c); text != want || code != impl.OK {
			t.Errorf("CommandText of %s = %q, %d, not %q", toldCommand(c), text, code, want)
		}
	}
	for _, tag := range []string{"", " ", "a b", "a ", " a", "a\"", "\"a\"", "(a)", "a(", "a)", "{", "a{1}", "{1}\r\na", "\u00e4", "a\r\n", "a\x00", "\x7f", "\x80", strings.Repeat("t", 21)} {
		checkNoText(t, tag, "X")
		checkNoText(t, tag, "X", "a", "b")
		checkNoText(t, tag, "")
	}
	// The name is the one that is read, the tag is not.
	for _, tag := range []string{"a X", "a x", "a X b", "a \"X\"", "a {1}\r\nX"} {
		checkNoText(t, tag, "X")
		checkNoText(t, tag, "X", "X")
	}
	for _, name := range []string{"", " ", "lower", "Lower", "LOWEr", "A B", "A ", " A", "A  B", "\"A\"", "\"\"", "\"A", "A\"", "\"\\\"\"", "(A", "A)", "(A)B", "(A))", "((A)", "(a)", "(A\x00)", "(A\r\n)", "{", "{1}", "{1}\r\nA", "{6}\r\n{6}\r\n", "{0}\r\n", "A{", "A{1}", "\u00c4", "\x80", "\x7f", "\x1f", "A\r\n", "\r\n", "A \"\"", "A \"B\"", "(A) (B)", "() ()"} {
		checkNoText(t, "a", name)
		checkNoText(t, "a", name, "")
		checkNoText(t, "a", name, ")", "a", "b")
		checkNoText(t, "a", name, slices.Repeat([]string{"w"}, 30)...)
	}
	changed("(A B)", func(x string) { checkCommandText(t, impl.Command{Tag: "a", Name: x, Args: []string{"b)"}}) })
	changed("AB", func(x string) { checkCommandText(t, impl.Command{Tag: x, Name: x, Args: []string{"b"}}) })
}

func TestWordsOfManyBytes(t *testing.T) {
	for _, sign := range []string{"w", "\"", "\x00", "\r"} {
		for _, n := range []int{1, 2, 3, 29, 30} {
			for _, size := range []int{3999, 4000, 4001, 4002, 5000} {
				words := slices.Repeat([]string{strings.Repeat(sign, size/n)}, n)
				words[n-1] += strings.Repeat(sign, size%n)
				if size <= 4000 {
					checkReadBack(t, "a", "B", words...)
				} else {
					checkNoText(t, "a", "B", words...)
				}
			}
		}
	}
	checkNoText(t, "a", "B", longText)
	checkNoText(t, "a", "B", fullText, fullText)
	checkNoText(t, "a", "B", slices.Repeat([]string{endlessText}, 30)...)
	checkNoText(t, "a", "B", make([]string, impl.MaxList+1)...)
	checkNoText(t, "a", "lower", strings.Repeat("w", 4001))
	// Tag and Name are none of the words.
	checkReadBack(t, strings.Repeat("t", 20), strings.Repeat("N", 3000), strings.Repeat("w", 4000))
	// The text of what is just short enough is taken off up to its last byte.
	for size := 3980; size <= 4000; size++ {
		text := checkReadBack(t, "a", "B", strings.Repeat("w", size))
		if len(text) != size+12 {
			t.Error("a text of", len(text), "bytes")
		}
	}
}

func TestListsOfWords(t *testing.T) {
	for text, want := range map[string]string{"(a)": "a", "(a body[] c)": "a,body[],c", "(a b)": "a,b", "(\\Seen \\Draft)": "\\Seen,\\Draft", "(})": "}", "(1} ~ !)": "1},~,!", "(a a)": "a,a"} {
		if words, code := checkListWords(t, text); strings.Join(words, ",") != want || code != impl.OK {
			t.Errorf("ListWords(%q) = %q, %d", text, words, code)
		}
	}
	for _, text := range []string{
		"", " ", "a", "a b", "(", ")", "()", "( )", "(  )", "(a", "a)", "(a ", "(a )", "( a)", "(a  b)", "(a b ", "(a b )", "( a b)", " (a)", "(a) ", "(a)b", "b(a)", "(a))", "((a)", "((a))", "(a (b))", "(a) (b)", "(a)(b)", ")(", ")a(", "(()", "(\"a\")", "(a \"b\")", "(a\")", "({1}\r\na)", "({)", "(a{1})", "(a\tb)", "(a\r\nb)", "(a)\r\n", "(\x00)", "(\x1f)", "(\x7f)", "(\x80)", "(\u00e4)", "[a]", "{a}", "\"(a)\"",
	} {
		checkNoListWords(t, text, impl.ErrForm)
	}
	for n := 1; n <= 40; n++ {
		for _, word := range []string{"a", "body[]", strings.Repeat("w", 300)} {
			words, code := checkListWords(t, "("+strings.Repeat(word+" ", n-1)+word+")")
			if n <= 30 && (!slices.Equal(words, slices.Repeat([]string{word}, n)) || code != impl.OK) || n > 30 && code != impl.ErrForm {
				t.Errorf("ListWords of %d words has %d and the code %d", n, len(words), code)
			}
		}
	}
	for n := range 7 {
		signsOf("() a\"", n, func(x string) { checkListWords(t, x) })
	}
	changed("(ab c)", func(x string) { checkListWords(t, x) })
}

func TestListsInLists(t *testing.T) {
	for depth := 1; depth <= 300; depth += 13 {
		list := strings.Repeat("(", depth) + strings.Repeat(")", depth)
		checkParsed(t, "a b "+list+" c", "a", "B", list, "c")
		checkParsed(t, "a b ("+strings.Repeat(list+" ", 10)+")", "a", "B", "("+strings.Repeat(list+" ", 10)+")")
		checkNoCommand(t, "a b "+list+") c", impl.ErrForm)
		checkNoCommand(t, "a b ("+list+" c", impl.ErrForm)
	}
	deep := strings.Repeat("(", 32000) + strings.Repeat(")", 32000)
	if c, code := impl.ParseCommand("a b " + deep); !slices.Equal(c.Args, []string{deep}) || code != impl.OK {
		t.Error("lists in 32000 lists:", code)
	}
	if c, code := impl.ParseCommand("a b (" + deep); len(c.Args) != 0 || code != impl.ErrForm {
		t.Error("lists in 32000 lists that do not match:", code)
	}
}

func TestTextsTooLong(t *testing.T) {
	for _, x := range []string{longText, fullText + "\xff", endlessText, "a noop\r\n" + fullText, "a {4001}\r\n" + fullText, "{1}\r\na\r\n" + fullText} {
		checkNotTaken(t, x, impl.ErrLong)
		checkNoCommand(t, x, impl.ErrLong)
		checkNoListWords(t, x, impl.ErrLong)
		if text, code := impl.QuoteText(x); text != "" || code != impl.ErrLong {
			t.Errorf("QuoteText of %d bytes = %.60q, %d", len(x), text, code)
		}
	}
	word := strings.Repeat("w", impl.MaxText-4)
	checkParsed(t, "a b "+word, "a", "B", word)
	checkNoCommand(t, "a b "+word+"w", impl.ErrLong)
	checkNoCommand(t, "a b "+word[1:]+" ", impl.ErrForm)
	word = strings.Repeat("w", impl.MaxText-2)
	if words, code := checkListWords(t, "("+word+")"); !slices.Equal(words, []string{word}) || code != impl.OK {
		t.Error("ListWords of MaxText bytes has the code", code)
	}
	checkNoListWords(t, "("+word+"w)", impl.ErrLong)
	checkNotTaken(t, fullText, impl.ErrRange)
	checkTaken(t, "a noop\r\n"+fullText[8:], "a noop", fullText[8:])
	checkNotTaken(t, "a noop\r\n"+fullText[7:], impl.ErrLong)
}

func TestMadeCommands(t *testing.T) {
	source := rand.New(rand.NewSource(15))
	for range 3000 {
		text, _ := impl.CommandText(madeCommand(source, source.Intn(5)))
		b := []byte(text + "\r\n" + text)
		for range 1 + source.Intn(3) {
			at := source.Intn(len(b))
			switch source.Intn(3) {
			case 0:
				b[at] = oneOf(source, " ", "(", ")", "{", "}", "\"", "\\", "\r", "\n", "0", "3", "a", "\x00", "\xff")[0]
			case 1:
				b = slices.Delete(b, at, at+1)
			case 2:
				b = slices.Insert(b, at, []byte(oneOf(source, " ", "(", ")", "{", "}", "\"", "\\", "\r", "\n", "0", "3", "{3}\r\n"))...)
			}
			if len(b) == 0 {
				break
			}
		}
		command, rest, _ := checkTake(t, string(b))
		checkParse(t, command)
		checkParse(t, string(b))
		checkTake(t, rest)
	}
}
