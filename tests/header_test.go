package tests

import (
	"bufio"
	"encoding/base64"
	"mime"
	"net/textproto"
	"regexp"
	"strings"
	"testing"
	"unicode/utf8"

	"loop.example/g00268/impl"
)

var (
	namePattern  = regexp.MustCompile(`^[!-9;-~]{1,40}$`)
	valuePattern = regexp.MustCompile(`^([!-~]{1,200}( [!-~]{1,200})*)?$`)
	fieldPattern = regexp.MustCompile(`(?s)^([^:]*): (.*)\r\n$`)
	wordPattern  = regexp.MustCompile(`^=\?utf-8\?B\?([A-Za-z0-9+/]+=*)\?=$`)
)

func safe(t string) bool {
	return len(t) <= 2000 && valuePattern.MatchString(t)
}

// inWord is an encoded word of any text, right or not.
func inWord(t string) string {
	return "=?utf-8?B?" + base64.StdEncoding.EncodeToString([]byte(t)) + "?="
}

// signsOf is each text of n of the signs.
func signsOf(signs string, n int, use func(string)) {
	x := make([]byte, n)
	count := 1
	for range n {
		count *= len(signs)
	}
	for i := range count {
		rest := i
		for j := range x {
			x[j] = signs[rest%len(signs)]
			rest /= len(signs)
		}
		use(string(x))
	}
}

// wordsOf is a safe value of n characters, of words of size characters, two at least, the first one perhaps of fewer.
func wordsOf(n, size int) string {
	word := " " + strings.Repeat("w", size)
	x := strings.Repeat(word, n/len(word)+1)
	x = x[len(x)-n:]
	if strings.HasPrefix(x, " ") {
		return "w " + x[2:]
	}
	return x
}

func checkName(t *testing.T, x string, want bool) {
	t.Helper()
	if got := impl.HeaderNameOK(x); got != want {
		t.Errorf("HeaderNameOK(%q) = %v", brief(x), got)
	}
}

func TestHeaderNames(t *testing.T) {
	for _, x := range []string{"Subject", "From", "Message-ID", "X-Id", "MIME-Version", "a", "9", "-", "!", "~", "a!b~c", "(=?)", "_"} {
		checkName(t, x, true)
	}
	for _, x := range []string{
		"", ":", "a:", ":a", "a:b", " ", "a ", " a", "a b", "\t", "a\tb", "a\r\n", "\r\n", "\x00", "a\x1f", "a\x7f", "\x7f", "\x80", "a\xff", "\u00e4", "Sujet\u00e9",
	} {
		checkName(t, x, false)
	}
}

func TestHeaderNameEachByte(t *testing.T) {
	for c := range 256 {
		one := string([]byte{byte(c)})
		want := c >= 33 && c <= 126 && c != ':'
		for _, x := range []string{one, one + "a", "a" + one, "a" + one + "b", one + one, strings.Repeat(one, impl.MaxName), strings.Repeat("a", impl.MaxName-1) + one} {
			checkName(t, x, want)
			if namePattern.MatchString(x) != want {
				t.Errorf("the pattern of names at %q", x)
			}
		}
		checkName(t, strings.Repeat("a", impl.MaxName)+one, false)
		checkName(t, one+strings.Repeat("a", impl.MaxName), false)
	}
}

func TestHeaderNameLengths(t *testing.T) {
	for n := range 3 * impl.MaxName {
		checkName(t, strings.Repeat("n", n), n >= 1 && n <= impl.MaxName)
	}
	checkName(t, fullText, false)
	checkName(t, longText, false)
	checkName(t, endlessText, false)
}

func checkSafe(t *testing.T, x string, want bool) {
	t.Helper()
	if got := impl.SafeValue(x); got != want {
		t.Errorf("SafeValue(%q) of %d = %v", brief(x), len(x), got)
	}
}

func TestSafeValues(t *testing.T) {
	for _, x := range []string{"", "a", "a b", "plain words, and signs: !~", "=?utf-8?B?w6Q=?=", "=?", "text/plain; charset=utf-8", "a b c d", "~ !"} {
		checkSafe(t, x, true)
	}
	for _, x := range []string{
		" ", "  ", " a", "a ", "a  b", "a   b", " a b", "a b ", "a b  c", "  a", "a  ",
		"a\tb", "\t", "a\r\n b", "a\r\n", "a\nb", "a\rb", "\x00", "\x1f", "a\x7f", "\x80", "\xff", "\u00e4", "a \u20ac", "a\u00a0b",
	} {
		checkSafe(t, x, false)
	}
	for c := range 256 {
		one := string([]byte{byte(c)})
		checkSafe(t, one, c >= 33 && c <= 126)
		checkSafe(t, "a"+one+"b", c >= 32 && c <= 126)
		checkSafe(t, "a b"+one, c >= 33 && c <= 126)
		checkSafe(t, one+"a b", c >= 33 && c <= 126)
		checkSafe(t, "a "+one+" b", c >= 33 && c <= 126)
	}
	for n := range 8 {
		signsOf(" a~\x7f", n, func(x string) { checkSafe(t, x, safe(x)) })
	}
}

func TestSafeValueWords(t *testing.T) {
	for n := range 410 {
		word := strings.Repeat("w", n)
		right := n >= 1 && n <= 200
		checkSafe(t, word, n <= 200)
		for _, x := range []string{"a " + word, word + " a", "a " + word + " b", word + " " + word, strings.Repeat("v", 200) + " " + word} {
			checkSafe(t, x, right)
		}
	}
}

func TestSafeValueLengths(t *testing.T) {
	for _, size := range []int{2, 3, 50, 199, 200} {
		for n := impl.MaxHeader - 250; n <= impl.MaxHeader+250; n++ {
			x := wordsOf(n, size)
			if !valuePattern.MatchString(x) || len(x) != n {
				t.Fatalf("no value of %d in words of %d", n, size)
			}
			checkSafe(t, x, n <= impl.MaxHeader)
		}
		checkSafe(t, wordsOf(impl.MaxText, size), false)
		checkSafe(t, wordsOf(impl.MaxText+1, size), false)
	}
	x := wordsOf(impl.MaxHeader, 100)
	checkSafe(t, x[:impl.MaxHeader-1]+" ", false)
	checkSafe(t, " "+x[1:], false)
	checkSafe(t, x[:impl.MaxHeader-1]+"\x7f", false)
	checkSafe(t, endlessText, false)
}

// encoded is what EncodeWords is to answer, rune by rune.
func encoded(t string) string {
	if safe(t) && !strings.Contains(t, "=?") {
		return t
	}
	runs := []string{""}
	for _, r := range t {
		if last := len(runs) - 1; len(runs[last]+string(r)) <= 45 {
			runs[last] += string(r)
		} else {
			runs = append(runs, string(r))
		}
	}
	for i, run := range runs {
		runs[i] = inWord(run)
	}
	return strings.Join(runs, " ")
}

// checkEncoded asks promise 4 of a right text of at most 1000 bytes: through the words, and through a field.
func checkEncoded(t *testing.T, x string) {
	t.Helper()
	want := encoded(x)
	got, code := impl.EncodeWords(x)
	if got != want || code != impl.OK {
		t.Errorf("EncodeWords(%q) = %q, %d, not %q", x, got, code, want)
	}
	if !safe(got) || !impl.SafeValue(got) {
		t.Errorf("EncodeWords(%q) = %q is no SafeValue", x, got)
	}
	if back, code := impl.DecodeWords(got); back != x || code != impl.OK {
		t.Errorf("DecodeWords(%q) = %q, %d, not %q", got, back, code, x)
	}
	if back, err := new(mime.WordDecoder).DecodeHeader(got); back != x || err != nil {
		t.Errorf("%q is read as %q, %v, not %q", got, back, err, x)
	}
	field := checkFold(t, "Subject", got)
	_, value, _ := impl.UnfoldHeader(field)
	if back, code := impl.DecodeWords(value); back != x || code != impl.OK {
		t.Errorf("the field %q says %q, %d, not %q", field, back, code, x)
	}
}

func checkEncodeCode(t *testing.T, x string, want int) {
	t.Helper()
	if got, code := impl.EncodeWords(x); got != "" || code != want {
		t.Errorf("EncodeWords(%q) of %d = %q, %d, not %d", brief(x), len(x), brief(got), code, want)
	}
}

func TestEncodeOrdinary(t *testing.T) {
	for plain, text := range map[string]string{
		"": "", "a": "a", "plain words": "plain words", "a = b?": "a = b?", "?=": "?=", "= ?": "= ?", "=": "=", "?": "?", "?=?": "=?utf-8?B?Pz0/?=",
		"\u00e4": "=?utf-8?B?w6Q=?=", "caf\u00e9 au lait": "=?utf-8?B?Y2Fmw6kgYXUgbGFpdA==?=", "\u20ac": "=?utf-8?B?4oKs?=", "\U0001f600": "=?utf-8?B?8J+YgA==?=",
		"=?": "=?utf-8?B?PT8=?=", "a=?b": "=?utf-8?B?YT0/Yg==?=", "a =? b": "=?utf-8?B?YSA9PyBi?=",
		" ": "=?utf-8?B?IA==?=", " a": "=?utf-8?B?IGE=?=", "a ": "=?utf-8?B?YSA=?=", "a  b": "=?utf-8?B?YSAgYg==?=",
		"\r\n": "=?utf-8?B?DQo=?=", "\x00": "=?utf-8?B?AA==?=", "\x7f": "=?utf-8?B?fw==?=", "a\tb": "=?utf-8?B?YQli?=", "a\nb": "=?utf-8?B?YQpi?=",
	} {
		if got, code := impl.EncodeWords(plain); got != text || code != impl.OK {
			t.Errorf("EncodeWords(%q) = %q, %d, not %q", plain, got, code, text)
		}
		checkEncoded(t, plain)
	}
	// What is encoded already is text like any other.
	for _, x := range []string{"\u00e4", " ", "a  b", "=?", strings.Repeat("\u20ac", 40)} {
		once, _ := impl.EncodeWords(x)
		checkEncoded(t, once)
		checkEncoded(t, "a "+once+" b")
	}
}

func TestEncodeSafeOrNot(t *testing.T) {
	word := strings.Repeat("w", 200)
	for x, stays := range map[string]bool{
		word: true, word + "w": false, word + " " + word: true, "a " + word + "w": false, word + " ": false, " " + word: false,
		word[2:] + "=?": false, "=?" + word[2:]: false, word[2:] + "?=": true, word + " =?": false, wordsOf(1000, 200): true, wordsOf(1000, 2): true,
		wordsOf(998, 7) + "=?": false, "=?" + wordsOf(998, 7): false, wordsOf(997, 7) + "? =": true, "= ?" + wordsOf(997, 7): true,
	} {
		if got, code := impl.EncodeWords(x); (got == x) != stays || code != impl.OK {
			t.Errorf("EncodeWords(%q) of %d = %q, %d", x, len(x), got, code)
		}
		checkEncoded(t, x)
	}
	for n := range 6 {
		signsOf("=?a ", n, func(x string) { checkEncoded(t, x) })
	}
}

// No rune is cut where a word reaches 45 bytes, and none goes into the next word that has room.
func TestEncodeRunesAtTheEndOfAWord(t *testing.T) {
	runes := []string{"x", "\u00e4", "\u20ac", "\U0001f600"}
	for ahead := 38; ahead <= 48; ahead++ {
		for _, a := range runes {
			for _, b := range runes {
				checkEncoded(t, " "+strings.Repeat("x", ahead-1)+a+b)
				checkEncoded(t, strings.Repeat("x", ahead)+a+b+" ")
				checkEncoded(t, "\u00e4"+strings.Repeat("x", ahead-2)+a+b+strings.Repeat("y", ahead)+b+a)
			}
		}
	}
	for size, r := range runes {
		size++
		for n := range 1000/size + 1 {
			checkEncoded(t, strings.Repeat(r, n))
			checkEncoded(t, " "+strings.Repeat(r, min(n, 999/size)))
		}
	}
	for ahead := 40; ahead <= 46; ahead++ {
		for size, r := range runes {
			x := " " + strings.Repeat("x", ahead-1) + r
			words, _ := impl.EncodeWords(x)
			want := inWord(x)
			if ahead+size+1 > 45 {
				want = inWord(x[:min(ahead, 45)]) + " " + inWord(x[min(ahead, 45):])
			}
			if words != want {
				t.Errorf("EncodeWords(%q) = %q, not %q", x, words, want)
			}
		}
	}
}

func TestEncodeMadeTexts(t *testing.T) {
	pieces := []string{"a", "b ", " ", "\u00e4", "\u20ac", "\U0001f600", "=?", "?=", "=?utf-8?B?", "\r\n", "word"}
	for seed := range 400 {
		var x strings.Builder
		for _, c := range madeBytes(seed, seed) {
			x.WriteString(pieces[int(c)%len(pieces)])
		}
		text := x.String()
		for len(text) > 1000 || !utf8.ValidString(text) {
			text = text[:min(len(text)-1, 1000)]
		}
		checkEncoded(t, text)
	}
}

func TestEncodeBounds(t *testing.T) {
	wide := strings.Repeat("\U0001f600", 250)
	// 42 bytes and a rune of four: the most words that 1000 bytes may have.
	worst := strings.Repeat(strings.Repeat("x", 42)+"\U0001f600", 30)
	for len(worst) > 1000 || !utf8.ValidString(worst) {
		worst = worst[:min(len(worst)-1, 1000)]
	}
	for _, x := range []string{wide, wordsOf(1000, 200), wordsOf(1000, 3), strings.Repeat("x", 1000), strings.Repeat(" ", 1000), strings.Repeat("=?", 500), strings.Repeat("\x00", 1000), worst, "\u00e4" + wordsOf(998, 9)} {
		if len(x) > 1000 {
			t.Fatal("a sample is too long")
		}
		checkEncoded(t, x)
	}
	for _, x := range []string{
		wide + "x", "x" + wide, wordsOf(1001, 200), wordsOf(1001, 3), wordsOf(impl.MaxHeader, 9), wordsOf(impl.MaxHeader+1, 9),
		strings.Repeat("x", 1001), strings.Repeat(" ", 1001), strings.Repeat("=?", 501), strings.Repeat("\u20ac", 334), fullText, strings.Repeat("\u00e4", impl.MaxText/2),
	} {
		checkEncodeCode(t, x, impl.ErrRange)
	}
}

// ErrForm is looked for ahead of ErrRange, over the whole of a text, and ErrLong ahead of both.
func TestEncodeWrongTexts(t *testing.T) {
	for _, wrong := range []string{"\xff", "\x80", "\xc0\x80", "\xe2\x82", "\xed\xa0\x80", "\xf4\x90\x80\x80", "\xc3"} {
		for _, n := range []int{0, 1, 44, 45, 500, 1000 - len(wrong), 1001 - len(wrong), 1000, 1001, 2000, impl.MaxText - len(wrong)} {
			for _, c := range []string{"x", " ", "="} {
				checkEncodeCode(t, strings.Repeat(c, n)+wrong, impl.ErrForm)
				checkEncodeCode(t, wrong+strings.Repeat(c, n), impl.ErrForm)
			}
		}
		checkEncodeCode(t, fullText+wrong, impl.ErrLong)
		checkEncodeCode(t, wrong+fullText, impl.ErrLong)
	}
	checkEncodeCode(t, longText, impl.ErrLong)
	checkEncodeCode(t, endlessText, impl.ErrLong)
}

// decoded is what DecodeWords is to answer to a safe value.
func decoded(value string) string {
	text, was := "", false
	for i, word := range strings.Split(value, " ") {
		is := false
		if m := wordPattern.FindStringSubmatch(word); m != nil {
			b, err := base64.StdEncoding.Strict().DecodeString(m[1])
			if is = err == nil && len(b) > 0 && utf8.Valid(b); is {
				word = string(b)
			}
		}
		if i > 0 && !(is && was) {
			text += " "
		}
		text, was = text+word, is
	}
	return text
}

func checkDecoded(t *testing.T, value, want string) {
	t.Helper()
	if got, code := impl.DecodeWords(value); got != want || code != impl.OK {
		t.Errorf("DecodeWords(%q) = %q, %d, not %q", value, got, code, want)
	}
}

func TestDecodeBlanksBetween(t *testing.T) {
	a, b, c := inWord("\u00e4"), inWord("b "), inWord("\U0001f600")
	for value, want := range map[string]string{
		"": "", "a": "a", "plain words here": "plain words here", a: "\u00e4",
		a + " " + b: "\u00e4b ", b + " " + a: "b \u00e4", a + " " + a: "\u00e4\u00e4",
		"x " + a: "x \u00e4", a + " x": "\u00e4 x", "x " + a + " y": "x \u00e4 y",
		"x " + a + " " + b + " y": "x \u00e4b  y", a + " x " + b: "\u00e4 x b ", b + " x " + a: "b  x \u00e4",
		a + " " + b + " " + c: "\u00e4b \U0001f600", "x " + a + " " + b + " " + c + " y z": "x \u00e4b \U0001f600 y z",
		a + " " + b + " x " + b + " " + c: "\u00e4b  x b \U0001f600", "x y " + c + " z w": "x y \U0001f600 z w",
		inWord(" ") + " " + inWord(" "): "  ", "x " + inWord(" ") + " y": "x   y", inWord(" a") + " " + inWord("b"): " ab",
		inWord("\r\n"): "\r\n", inWord("\x00"): "\x00", inWord(a): a, inWord(a) + " " + inWord(a): a + a, inWord(a + " " + b): a + " " + b,
	} {
		checkDecoded(t, value, want)
		checkDecoded(t, value, decoded(value))
	}
	for n := range 20 {
		value := strings.TrimPrefix(strings.Repeat(" "+a, n), " ")
		checkDecoded(t, value, strings.Repeat("\u00e4", n))
		checkDecoded(t, "x"+strings.Repeat(" "+a, n)+" y", strings.TrimSuffix("x "+strings.Repeat("\u00e4", n), " ")+" y")
	}
}

func almostWords() []string {
	return []string{
		"=?iso-8859-1?B?w6Q=?=", "=?us-ascii?B?YQ==?=", "=?utf-7?B?YQ==?=", "=?utf8?B?YQ==?=", "=?UTF-8?B?YQ==?=", "=?Utf-8?B?YQ==?=", "=?utf-8?b?YQ==?=", "=?utf-8*en?B?YQ==?=",
		"=?utf-8?Q?a?=", "=?utf-8?q?=C3=A4?=", "=?utf-8??YQ==?=", "=?utf-8?BB?YQ==?=", "=??B?YQ==?=", "=?utf-8?YQ==?=", "=?utf-8?B?",
		// base 64 of no bytes, and of none that are right
		"=?utf-8?B?Y?=", "=?utf-8?B?YQ?=", "=?utf-8?B?YQ=?=", "=?utf-8?B?YR==?=", "=?utf-8?B?YQ===?=", "=?utf-8?B?Y===?=", "=?utf-8?B?=?=", "=?utf-8?B?==?=", "=?utf-8?B?====?=",
		"=?utf-8?B?YQ==YQ==?=", "=?utf-8?B?Y-_Q?=", "=?utf-8?B?YW?I?=", "=?utf-8?B?*?=", inWord("\xff"), inWord("a\xc3"), inWord("\xed\xa0\x80"), inWord("\xc0\x80"), inWord("a\x80b"),
		// an empty text
		"=?utf-8?B??=", "=?utf-8?B?=", "=?utf-8?B?==", "=?utf-8?B???=", "=?utf-8?B", "=?=", "=?",
		// what is missing, or too much
		"=?utf-8?B?YQ==", "=?utf-8?B?YQ==?", "=?utf-8?B?YQ===", "=?utf-8?B?YWJj=", "?utf-8?B?YQ==?=", "utf-8?B?YQ==?=", "YQ==?=", "YQ==",
		"x=?utf-8?B?YQ==?=", "=?utf-8?B?YQ==?=x", "(=?utf-8?B?YQ==?=)", "=?utf-8?B?YQ==?=,", "==?utf-8?B?YQ==?=", "=?utf-8?B?YQ==?==", "=?utf-8?B?YQ==??=",
		"=?utf-8?B?YQ==?==?utf-8?B?YQ==?=", "=?utf-8?B?=?utf-8?B?YQ==?=",
	}
}

// A word that only looks like an encoded one stays, and so do the blanks beside it.
func TestDecodeAlmostWords(t *testing.T) {
	a := inWord("\u00e4")
	for _, x := range almostWords() {
		for value, want := range map[string]string{
			x: x, "y " + x: "y " + x, x + " y": x + " y", x + " " + x: x + " " + x,
			a + " " + x: "\u00e4 " + x, x + " " + a: x + " \u00e4", a + " " + x + " " + a: "\u00e4 " + x + " \u00e4",
			a + " " + a + " " + x + " " + a + " " + a: "\u00e4\u00e4 " + x + " \u00e4\u00e4",
		} {
			checkDecoded(t, value, want)
			checkDecoded(t, value, decoded(value))
		}
		// As a text of its own it is encoded, if it has `=?`, and says what it was.
		checkEncoded(t, x)
		checkEncoded(t, x+" "+x)
	}
}

func TestDecodeAllOrders(t *testing.T) {
	words := []string{"x", inWord("\u00e4"), inWord(" "), inWord("a b"), "=?utf-8?B??=", inWord("\xff"), "=?utf-8?Q?a?="}
	for n := 1; n <= 5; n++ {
		signsOf("\x00\x01\x02\x03\x04\x05\x06", n, func(places string) {
			var list []string
			for _, i := range []byte(places) {
				list = append(list, words[i])
			}
			value := strings.Join(list, " ")
			checkDecoded(t, value, decoded(value))
		})
	}
}

// A word of more than 45 bytes has the form too, as long as it is a word of a SafeValue.
func TestDecodeLongWords(t *testing.T) {
	for n := 1; n <= 141; n++ {
		x := strings.Repeat("x", n)
		checkDecoded(t, inWord(x), x)
		checkDecoded(t, inWord(x)+" "+inWord(x), x+x)
	}
	if got, code := impl.DecodeWords(inWord(strings.Repeat("x", 142))); got != "" || code != impl.ErrForm {
		t.Errorf("DecodeWords of a word of 204 = %q, %d", got, code)
	}
}

func TestDecodeWrongValues(t *testing.T) {
	word := strings.Repeat("w", 200)
	for _, x := range []string{
		" ", " a", "a ", "a  b", inWord("a") + "  " + inWord("b"), inWord("a") + " ", " " + inWord("a"), inWord("a") + "\t" + inWord("b"), inWord("a") + "\r\n " + inWord("b"),
		"\u00e4", "a\tb", "\x7f", "\x80", "\xff", "a\r\n", word + "w", "a " + word + "w", wordsOf(impl.MaxHeader+1, 50), fullText, strings.Repeat("a ", impl.MaxText/2),
	} {
		if got, code := impl.DecodeWords(x); got != "" || code != impl.ErrForm {
			t.Errorf("DecodeWords(%q) = %q, %d", brief(x), brief(got), code)
		}
	}
	for _, x := range []string{word, word + " a", wordsOf(impl.MaxHeader, 50), wordsOf(impl.MaxHeader, 200)} {
		checkDecoded(t, x, x)
	}
	for _, x := range []string{longText, endlessText, wordsOf(impl.MaxText+1, 50)} {
		if got, code := impl.DecodeWords(x); got != "" || code != impl.ErrLong {
			t.Errorf("DecodeWords of %d = %q, %d", len(x), brief(got), code)
		}
	}
}

// folded is what FoldHeader is to answer to a right name and value, line by line.
func folded(name, value string) string {
	if value == "" {
		return name + ": \r\n"
	}
	words := strings.Split(value, " ")
	lines := []string{name + ": " + words[0]}
	for _, word := range words[1:] {
		if last := len(lines) - 1; len(lines[last]+" "+word) <= 78 {
			lines[last] += " " + word
		} else {
			lines = append(lines, " "+word)
		}
	}
	return strings.Join(lines, "\r\n") + "\r\n"
}

func checkFold(t *testing.T, name, value string) string {
	t.Helper()
	want := folded(name, value)
	got, code := impl.FoldHeader(name, value)
	if got != want || code != impl.OK {
		t.Errorf("FoldHeader(%q, %q) = %q, %d, not %q", name, value, got, code, want)
	}
	for i, line := range strings.Split(strings.TrimSuffix(got, "\r\n"), "\r\n") {
		words := strings.Count(line, " ")
		if len(line) > 78 && words > 1 || i > 0 && !strings.HasPrefix(line, " ") || strings.ContainsAny(line, "\r\n") {
			t.Errorf("FoldHeader(%q, %q): line %d is %q", name, value, i, line)
		}
	}
	n, v, code := impl.UnfoldHeader(got)
	if n != name || v != value || code != impl.OK {
		t.Errorf("UnfoldHeader(%q) = %q, %q, %d, not %q, %q", got, n, v, code, name, value)
	}
	return got
}

func TestFoldOrdinary(t *testing.T) {
	for _, c := range []struct{ name, value, want string }{
		{"Subject", "a b", "Subject: a b\r\n"}, {"Subject", "", "Subject: \r\n"}, {"X", "", "X: \r\n"}, {"X", "y", "X: y\r\n"},
		{"Content-Type", "text/plain; charset=utf-8", "Content-Type: text/plain; charset=utf-8\r\n"},
		{"Date", "Thu, 02 Jan 2020 03:04:05 +0000", "Date: Thu, 02 Jan 2020 03:04:05 +0000\r\n"},
		{"A", ":", "A: :\r\n"}, {"A", ": b: c", "A: : b: c\r\n"},
	} {
		if got, code := impl.FoldHeader(c.name, c.value); got != c.want || code != impl.OK {
			t.Errorf("FoldHeader(%q, %q) = %q, %d, not %q", c.name, c.value, got, code, c.want)
		}
		checkFold(t, c.name, c.value)
	}
	for _, name := range []string{"Subject", "X-Id", "X"} {
		for seed := range 200 {
			value := strings.Join(strings.Fields(string(fromSigns("abcdefgh=?:;  ", 10*seed, seed))), " ")
			field := checkFold(t, name, value[:min(len(value), impl.MaxHeader)])
			// Another reader of fields takes it for the same.
			head, err := textproto.NewReader(bufio.NewReader(strings.NewReader(field + "\r\n"))).ReadMIMEHeader()
			if err != nil || head.Get(name) != value {
				t.Errorf("%q is read as %q, %v, not %q", field, head.Get(name), err, value)
			}
		}
	}
}

func TestFoldWidths(t *testing.T) {
	w := strings.Repeat("w", 200)
	for _, c := range []struct{ name, value, want string }{
		// A line of 77, of 78 and of 79 characters, by its second word.
		{"Name", w[:40] + " " + w[:30], "Name: " + w[:40] + " " + w[:30] + "\r\n"},
		{"Name", w[:40] + " " + w[:31], "Name: " + w[:40] + " " + w[:31] + "\r\n"},
		{"Name", w[:40] + " " + w[:32], "Name: " + w[:40] + "\r\n " + w[:32] + "\r\n"},
		{"Name", w[:71] + " x", "Name: " + w[:71] + "\r\n x\r\n"}, {"Name", w[:70] + " x", "Name: " + w[:70] + " x\r\n"},
		// A line behind a fold, whose blank counts.
		{"N", w[:77] + " " + w[:38] + " " + w[:38], "N: " + w[:77] + "\r\n " + w[:38] + " " + w[:38] + "\r\n"},
		{"N", w[:77] + " " + w[:38] + " " + w[:39], "N: " + w[:77] + "\r\n " + w[:38] + "\r\n " + w[:39] + "\r\n"},
		{"N", w[:77] + " " + w[:37] + " " + w[:39], "N: " + w[:77] + "\r\n " + w[:37] + " " + w[:39] + "\r\n"},
		{"N", w[:77] + " " + w[:76] + " x", "N: " + w[:77] + "\r\n " + w[:76] + "\r\n x\r\n"},
		{"N", w[:77] + " " + w[:75] + " x", "N: " + w[:77] + "\r\n " + w[:75] + " x\r\n"},
		// A first word that is too long stays in its line; another one gets a line of its own.
		{"Name", w[:72], "Name: " + w[:72] + "\r\n"}, {"Name", w[:73], "Name: " + w[:73] + "\r\n"}, {"Name", w, "Name: " + w + "\r\n"},
		{"Name", w + " x", "Name: " + w + "\r\n x\r\n"}, {"Name", "x " + w, "Name: x\r\n " + w + "\r\n"},
		{"Name", "x " + w + " y z", "Name: x\r\n " + w + "\r\n y z\r\n"}, {"Name", "x " + w[:77] + " y", "Name: x\r\n " + w[:77] + "\r\n y\r\n"},
		{"Name", "x " + w[:78] + " y", "Name: x\r\n " + w[:78] + "\r\n y\r\n"}, {"Name", w + " " + w, "Name: " + w + "\r\n " + w + "\r\n"},
		{w[:40], w[:36], w[:40] + ": " + w[:36] + "\r\n"}, {w[:40], w[:37] + " x", w[:40] + ": " + w[:37] + "\r\n x\r\n"},
		{w[:40], w[:34] + " x", w[:40] + ": " + w[:34] + " x\r\n"}, {w[:40], w[:35] + " x", w[:40] + ": " + w[:35] + "\r\n x\r\n"},
	} {
		if got, code := impl.FoldHeader(c.name, c.value); got != c.want || code != impl.OK {
			t.Errorf("FoldHeader(%q, %q) = %q, %d, not %q", c.name, c.value, got, code, c.want)
		}
		checkFold(t, c.name, c.value)
	}
	for a := 1; a <= 200; a++ {
		for _, name := range []string{"N", "Name", w[:40]} {
			checkFold(t, name, w[:a])
			checkFold(t, name, w[:a]+" "+w[:201-a]+" x y")
			checkFold(t, name, "x "+w[:a]+" "+w[:max(1, 78-a)]+" "+w[:max(1, 77-a)])
			checkFold(t, name, wordsOf(impl.MaxHeader-a, max(a, 2)))
		}
	}
	for size := 2; size <= 200; size++ {
		checkFold(t, "Name", wordsOf(impl.MaxHeader, size))
	}
}

func checkFoldCode(t *testing.T, name, value string, want int) {
	t.Helper()
	if got, code := impl.FoldHeader(name, value); got != "" || code != want {
		t.Errorf("FoldHeader(%q, %q) = %q, %d, not %d", brief(name), brief(value), brief(got), code, want)
	}
}

func TestFoldWrong(t *testing.T) {
	wrongNames := []string{"", ":", "a:", "a b", " ", "a\x7f", "a\x1f", "\u00e4", "a\r\n", strings.Repeat("n", impl.MaxName+1), fullText}
	wrongValues := []string{" ", " a", "a ", "a  b", "a\tb", "a\r\n b", "a\n", "\x7f", "\u00e4", "\xff", strings.Repeat("w", 201), wordsOf(impl.MaxHeader+1, 50), fullText}
	for _, name := range wrongNames {
		for _, value := range []string{"", "a", "a b"} {
			checkFoldCode(t, name, value, impl.ErrBad)
		}
		for _, value := range wrongValues {
			checkFoldCode(t, name, value, impl.ErrBad)
		}
		checkFoldCode(t, name, longText, impl.ErrLong)
		checkFoldCode(t, name, endlessText, impl.ErrLong)
	}
	for _, value := range wrongValues {
		checkFoldCode(t, "Name", value, impl.ErrBad)
		checkFoldCode(t, longText, value, impl.ErrLong)
		checkFoldCode(t, endlessText, value, impl.ErrLong)
	}
	checkFoldCode(t, "Name", longText, impl.ErrLong)
	checkFoldCode(t, longText, "value", impl.ErrLong)
	checkFoldCode(t, longText, longText, impl.ErrLong)
	for _, n := range []int{1, impl.MaxName} {
		checkFold(t, strings.Repeat("n", n), "value")
		checkFold(t, strings.Repeat("!", n), "")
		checkFold(t, strings.Repeat("~", n), "")
	}
}

// unfolded is what UnfoldHeader is to answer.
func unfolded(t string) (string, string, int) {
	m := fieldPattern.FindStringSubmatch(t)
	if m == nil {
		return "", "", impl.ErrForm
	}
	value := strings.Join(strings.Split(m[2], "\r\n "), " ")
	if !namePattern.MatchString(m[1]) || !safe(value) {
		return "", "", impl.ErrForm
	}
	return m[1], value, impl.OK
}

func checkUnfold(t *testing.T, x string) {
	t.Helper()
	name, value, code := unfolded(x)
	if n, v, c := impl.UnfoldHeader(x); n != name || v != value || c != code {
		t.Errorf("UnfoldHeader(%q) = %q, %q, %d, not %q, %q, %d", brief(x), brief(n), brief(v), c, brief(name), brief(value), code)
	}
}

// Folds that FoldHeader does not make are unfolded all the same.
func TestUnfoldRight(t *testing.T) {
	long := strings.Repeat("w", 200)
	for _, c := range []struct{ text, name, value string }{
		{"X: \r\n", "X", ""}, {"X: a\r\n", "X", "a"}, {"X: a b\r\n", "X", "a b"}, {"X: a\r\n b\r\n", "X", "a b"}, {"X: a\r\n b\r\n c\r\n", "X", "a b c"},
		{"X: a: b\r\n", "X", "a: b"}, {"X: :\r\n", "X", ":"}, {"X: a\r\n :b\r\n", "X", "a :b"}, {"!~: !~\r\n", "!~", "!~"},
		{"X: " + long + "\r\n", "X", long}, {"X: " + long + " " + long + "\r\n", "X", long + " " + long},
		{"X: " + wordsOf(impl.MaxHeader, 50) + "\r\n", "X", wordsOf(impl.MaxHeader, 50)},
		{"X:" + strings.Repeat(" a\r\n", 1000), "X", strings.TrimSuffix(strings.Repeat("a ", 1000), " ")},
		{long[:40] + ": a\r\n", long[:40], "a"},
	} {
		if n, v, code := impl.UnfoldHeader(c.text); n != c.name || v != c.value || code != impl.OK {
			t.Errorf("UnfoldHeader(%q) = %q, %q, %d", brief(c.text), n, brief(v), code)
		}
		checkUnfold(t, c.text)
	}
}

func TestUnfoldWrong(t *testing.T) {
	long := strings.Repeat("w", 201)
	for _, x := range []string{
		"", ":", " ", "\r\n", ": \r\n", ": a\r\n", "X", "X\r\n", "X a\r\n", "X \r\n",
		// no blank behind the colon, or none right behind it
		"X:", "X:\r\n", "X:a\r\n", "X:\ta\r\n", "X:\r\n a\r\n", "X::\r\n", "X:\r\n \r\n", "X:a b\r\n",
		// no CRLF at the end
		"X: ", "X: a", "X: a\r", "X: a\n", "X: a\n\r", "X: a\r\n ", "X: a\r\n b", "X: a\r\n b\r", "X: a\r\nb", "X: \n", "X: \r",
		// CRLF that no blank follows
		"X: a\r\n\r\n", "X: \r\n\r\n", "X: a\r\nb\r\n", "X: a\r\nY: b\r\n", "X: a\r\n\tb\r\n", "X: a\r\n\r\n b\r\n", "X: a\r\n b\r\nc\r\n", "X: \r\na\r\n",
		// a lone 13 or 10
		"X: a\rb\r\n", "X: a\nb\r\n", "X: a\r b\r\n", "X: a\n b\r\n", "X: a\r\r\n", "X: a\n\r\n", "X: a\r\r\n b\r\n", "X: a\r\n\n b\r\n", "X: a\n\r b\r\n", "X: \r\r\n", "\rX: a\r\n", "X\n: a\r\n",
		// a name that is not right
		" X: a\r\n", "X : a\r\n", "X Y: a\r\n", "\u00e4: a\r\n", "X\x7f: a\r\n", "\tX: a\r\n", "\r\n X: a\r\n", "X\r\n : a\r\n", long[:41] + ": a\r\n",
		// a value that is not right behind the unfolding
		"X:  \r\n", "X:  a\r\n", "X: a \r\n", "X: a  b\r\n", "X: a \r\n b\r\n", "X: a\r\n  b\r\n", "X: a\r\n \r\n", "X: \r\n a\r\n", "X: \r\n \r\n", "X: a\r\n \r\n b\r\n",
		"X: \u00e4\r\n", "X: a\tb\r\n", "X: a\x7f\r\n", "X: a\x00\r\n", "X: \xff\r\n", "X: " + long + "\r\n", "X: a\r\n " + long + "\r\n",
		"X: " + wordsOf(impl.MaxHeader+1, 50) + "\r\n", "X:" + strings.Repeat(" a\r\n", 1001), "X: " + fullText[5:] + "\r\n", fullText,
	} {
		if n, v, code := impl.UnfoldHeader(x); n != "" || v != "" || code != impl.ErrForm {
			t.Errorf("UnfoldHeader(%q) = %q, %q, %d", brief(x), n, brief(v), code)
		}
		checkUnfold(t, x)
	}
	for _, x := range []string{longText, endlessText, "X: a\r\n" + fullText, "X: " + fullText + "\r\n"} {
		if n, v, code := impl.UnfoldHeader(x); n != "" || v != "" || code != impl.ErrLong {
			t.Errorf("UnfoldHeader of %d = %q, %q, %d", len(x), n, brief(v), code)
		}
	}
}

func TestUnfoldShortTexts(t *testing.T) {
	for n := range 8 {
		signsOf(" \r\na:", n, func(x string) {
			checkUnfold(t, "X:"+x)
			checkUnfold(t, "X: "+x+"\r\n")
		})
	}
	for n := range 6 {
		signsOf(" \r\naX:\x7f", n, func(x string) {
			checkUnfold(t, x)
			checkUnfold(t, x+"\r\n")
			checkUnfold(t, x+": a\r\n")
		})
	}
	for c := range 256 {
		one := string([]byte{byte(c)})
		for _, x := range []string{one + ": a\r\n", "X" + one + ": a\r\n", "X:" + one + "a\r\n", "X: " + one + "\r\n", "X: a" + one + "b\r\n", "X: a\r\n" + one + "b\r\n", "X: a\r\n" + one, "X: a" + one + "\n", "X: a\r" + one, one + "X: a\r\n"} {
			checkUnfold(t, x)
		}
	}
}
