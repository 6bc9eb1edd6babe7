package tests

import (
	"bytes"
	"encoding/base64"
	"io"
	"mime/quotedprintable"
	"slices"
	"strings"
	"testing"

	"loop.example/g00268/impl"
)

// madeBytes is n bytes, of all sorts, by a rule.
func madeBytes(n, seed int) []byte {
	b := make([]byte, n)
	x := uint32(seed)*2654435761 + 12345
	for i := range b {
		x = x*1664525 + 1013904223
		b[i] = byte(x >> 24)
	}
	return b
}

// fromSigns is n bytes of signs, by a rule.
func fromSigns(signs string, n, seed int) []byte {
	b := madeBytes(n, seed)
	for i := range b {
		b[i] = signs[int(b[i])%len(signs)]
	}
	return b
}

const sixBitChars = "ABCDEFGHIJKLMNOPQRSTUVWXYZabcdefghijklmnopqrstuvwxyz0123456789+/"

func checkBase64(t *testing.T, b []byte) {
	t.Helper()
	want := base64.StdEncoding.EncodeToString(b)
	got, code := impl.Base64Text(b)
	if got != want || code != impl.OK {
		t.Errorf("Base64Text(%q) = %q, %d, not %q", brief(string(b)), brief(got), code, brief(want))
	}
	if back, code := impl.ReadBase64(want); !bytes.Equal(back, b) || code != impl.OK {
		t.Errorf("ReadBase64(%q) = %q, %d", brief(want), brief(string(back)), code)
	}
}

func checkNoBase64(t *testing.T, x string) {
	t.Helper()
	if b, code := impl.ReadBase64(x); len(b) != 0 || code != impl.ErrForm {
		t.Errorf("ReadBase64(%q) = %q, %d", brief(x), brief(string(b)), code)
	}
}

func TestBase64Bytes(t *testing.T) {
	for plain, text := range map[string]string{
		"": "", "f": "Zg==", "fo": "Zm8=", "foo": "Zm9v", "foob": "Zm9vYg==", "fooba": "Zm9vYmE=", "foobar": "Zm9vYmFy",
		"\x00": "AA==", "\x00\x00": "AAA=", "\x00\x00\x00": "AAAA", "\xff": "/w==", "\xff\xff": "//8=", "\xff\xff\xff": "////",
		"\xfb\xef\xbe": "++++", "\xfb": "+w==", "a b\r\n": "YSBiDQo=",
	} {
		if got, code := impl.Base64Text([]byte(plain)); got != text || code != impl.OK {
			t.Errorf("Base64Text(%q) = %q, %d", plain, got, code)
		}
		checkBase64(t, []byte(plain))
	}
	checkBase64(t, nil)
	for n := range 260 {
		checkBase64(t, madeBytes(n, n))
		checkBase64(t, bytes.Repeat([]byte{byte(n)}, n%7))
	}
}

func TestBase64EachCharacter(t *testing.T) {
	for value := range 64 {
		c := sixBitChars[value]
		if got, _ := impl.Base64Text([]byte{byte(value << 2), 0, byte(value)}); got != string([]byte{c, 'A', 'A', c}) {
			t.Errorf("Base64Text of %d = %q", value, got)
		}
	}
	for a := range 256 {
		checkBase64(t, []byte{byte(a)})
		for b := range 256 {
			checkBase64(t, []byte{byte(a), byte(b)})
		}
	}
}

// Each text of four characters, out of some, is some bytes' text or none.
func TestBase64ShortTexts(t *testing.T) {
	const signs = "AQgwBDz9+/=-"
	var x [4]byte
	for i := range 12 * 12 * 12 * 12 {
		for j, rest := 0, i; j < 4; j, rest = j+1, rest/12 {
			x[j] = signs[rest%12]
		}
		text := string(x[:])
		want, err := base64.StdEncoding.Strict().DecodeString(text)
		if err != nil {
			checkNoBase64(t, text)
			checkNoBase64(t, "Zm9v"+text)
		} else if b, code := impl.ReadBase64(text); !bytes.Equal(b, want) || code != impl.OK {
			t.Errorf("ReadBase64(%q) = %q, %d", text, b, code)
		}
	}
}

func TestBase64WrongLengths(t *testing.T) {
	text := strings.Repeat("Zm9v", 5)
	for n := range len(text) {
		if n%4 != 0 {
			checkNoBase64(t, text[:n])
			checkNoBase64(t, text[:n]+"=")
			checkNoBase64(t, text[:n]+"==")
		}
	}
	for _, x := range []string{"A", "AA", "AAA", "AAAAA", "AA=", "AAAA=", "AAAA==", "A==", "A===", "=", "==", "===", "===="} {
		checkNoBase64(t, x)
	}
}

func TestBase64Pads(t *testing.T) {
	for _, x := range []string{
		"Zg==Zg==", "Zg==Zm9v", "Zm8=Zm9v", "Zm8=Zm8=", "=Zm9", "Z=m9", "Zm=9", "=Zg=", "Z=g=", "=g==", "==Zg", "Z===",
		"Zm9v====", "Zm9v===", "Zm9vZ===", "Zm9v=Zg=", "AAA=AAAA", "AA==AAAA", "AA=A",
	} {
		checkNoBase64(t, x)
	}
}

// Bits that are left over are noughts.
func TestBase64BitsLeftOver(t *testing.T) {
	for value := range 64 {
		c := sixBitChars[value : value+1]
		one, two := "Z"+c+"==", "Zm"+c+"="
		if value%16 != 0 {
			checkNoBase64(t, one)
		} else if b, code := impl.ReadBase64(one); string(b) != string([]byte{25<<2 | byte(value>>4)}) || code != impl.OK {
			t.Errorf("ReadBase64(%q) = %q, %d", one, b, code)
		}
		if value%4 != 0 {
			checkNoBase64(t, two)
		} else if b, code := impl.ReadBase64(two); string(b) != string([]byte{'f', 0x60 | byte(value>>2)}) || code != impl.OK {
			t.Errorf("ReadBase64(%q) = %q, %d", two, b, code)
		}
	}
}

func TestBase64NoCharacter(t *testing.T) {
	for c := range 256 {
		x := []byte("AAAAAAAA")
		for place := range x {
			with := slices.Clone(x)
			with[place] = byte(c)
			if strings.IndexByte(sixBitChars, byte(c)) >= 0 {
				if b, code := impl.ReadBase64(string(with)); len(b) != 6 || code != impl.OK {
					t.Errorf("ReadBase64(%q) = %q, %d", with, b, code)
				}
			} else if c != '=' || place != 7 {
				checkNoBase64(t, string(with))
			}
		}
	}
	for _, x := range []string{"Zm9v\r\nZg==", "Zm9v\r\n\r\n", "Zg==\r\n\r\n", "Zg==\n", "\nZg=", " Zg=", "Zg= ", "Zm9v    ", "Zm-_", "\u00e4\u00e4"} {
		checkNoBase64(t, x)
	}
}

func TestBase64Bounds(t *testing.T) {
	b := madeBytes(impl.MaxText+1, 1)
	for n := impl.MaxText - 3; n <= impl.MaxText; n++ {
		want := base64.StdEncoding.EncodeToString(b[:n])
		if got, code := impl.Base64Text(b[:n]); got != want || code != impl.OK {
			t.Error("Base64Text of", n, "bytes:", len(got), code)
		}
		// The text is longer than what may be handed in.
		if back, code := impl.ReadBase64(want); len(back) != 0 || code != impl.ErrLong {
			t.Error("ReadBase64 of", len(want), "characters:", len(back), code)
		}
	}
	if got, code := impl.Base64Text(b); got != "" || code != impl.ErrLong {
		t.Error("Base64Text beyond MaxText:", len(got), code)
	}
	for n := impl.MaxText/4*3 - 2; n <= impl.MaxText/4*3; n++ {
		checkBase64(t, b[:n])
	}
	for _, x := range []string{strings.Repeat("A", impl.MaxText+1), strings.Repeat("A", impl.MaxText+4), strings.Repeat("-", impl.MaxText+1), endlessText} {
		if back, code := impl.ReadBase64(x); len(back) != 0 || code != impl.ErrLong {
			t.Error("ReadBase64 of", len(x), "characters:", len(back), code)
		}
	}
	checkNoBase64(t, strings.Repeat("A", impl.MaxText-1))
	checkNoBase64(t, strings.Repeat("A", impl.MaxText-1)+"-")
}

// quotedLine is a line's text: the places at which it goes on are looked for in the list of all its bytes' forms.
func quotedLine(line string) string {
	var forms []string
	for i := range len(line) {
		c := line[i : i+1]
		plain := c > " " && c < "\x7f" && c != "=" || c == " " && i < len(line)-1
		if !plain {
			c = "=" + string("0123456789ABCDEF"[line[i]/16]) + string("0123456789ABCDEF"[line[i]%16])
		}
		forms = append(forms, c)
	}
	var parts []string
	for {
		// All that is left may have 76 characters; else as much goes ahead as has 75.
		all := strings.Join(forms, "")
		if len(all) <= 76 {
			return strings.Join(append(parts, all), "=\r\n")
		}
		n := min(len(forms), 75)
		for len(strings.Join(forms[:n], "")) > 75 {
			n--
		}
		parts = append(parts, strings.Join(forms[:n], ""))
		forms = forms[n:]
	}
}

func quotedLines(x string) string {
	var all []string
	for _, line := range strings.Split(x, "\r\n") {
		all = append(all, quotedLine(line))
	}
	return strings.Join(all, "\r\n")
}

func checkQuoted(t *testing.T, x string) {
	t.Helper()
	want := quotedLines(x)
	got, code := impl.QuotedText([]byte(x))
	if got != want || code != impl.OK {
		t.Errorf("QuotedText(%q) = %q, %d, not %q", x, got, code, want)
	}
	checkQuotedLines(t, got)
	if back, code := impl.ReadQuoted(got); string(back) != x || code != impl.OK {
		t.Errorf("ReadQuoted(%q) = %q, %d, not %q", got, back, code, x)
	}
	if back, err := io.ReadAll(quotedprintable.NewReader(strings.NewReader(got))); string(back) != x || err != nil {
		t.Errorf("%q is read as %q, %v, not %q", got, back, err, x)
	}
}

func checkQuotedLines(t *testing.T, text string) {
	t.Helper()
	longest := 0
	for i, line := range strings.Split(text, "\r\n") {
		longest = max(longest, len(line))
		if len(line) > 76 {
			t.Errorf("line %d has %d characters: %q", i, len(line), line)
		}
		if strings.HasSuffix(line, " ") || strings.ContainsAny(line, "\r\n") {
			t.Errorf("line %d ends wrong: %q", i, line)
		}
	}
	if got := impl.LongestLine(text); len(text) <= impl.MaxText && got != longest {
		t.Errorf("LongestLine = %d, not %d", got, longest)
	}
}

func TestQuotedBytes(t *testing.T) {
	for plain, text := range map[string]string{
		"": "", "plain words": "plain words", "a=b": "a=3Db", "=": "=3D", "==": "=3D=3D", "=3D": "=3D3D", "=\r\n": "=3D\r\n",
		"\u00e4\u20ac": "=C3=A4=E2=82=AC", "\x00\x1f\x7f\x80\xff": "=00=1F=7F=80=FF", "~!": "~!", "a\tb": "a=09b",
	} {
		if got, code := impl.QuotedText([]byte(plain)); got != text || code != impl.OK {
			t.Errorf("QuotedText(%q) = %q, %d, not %q", plain, got, code, text)
		}
		checkQuoted(t, plain)
	}
	if got, code := impl.QuotedText(nil); got != "" || code != impl.OK {
		t.Errorf("QuotedText of nil = %q, %d", got, code)
	}
	for c := range 256 {
		one := string([]byte{byte(c)})
		for _, x := range []string{one, one + "a", "a" + one, one + one, one + "\r\n", one + "\r", one + "\n", "\r" + one, "\n" + one, "\r\n" + one} {
			checkQuoted(t, x)
		}
	}
	for n := range 400 {
		checkQuoted(t, string(madeBytes(n, n)))
		checkQuoted(t, string(fromSigns("abc ~=\x80", n, n)))
		checkQuoted(t, string(fromSigns("\r\n", n%40, n)))
		checkQuoted(t, string(fromSigns("abc \r\n", n, n)))
	}
}

func TestQuotedBlanksAtEnds(t *testing.T) {
	for plain, text := range map[string]string{
		" ": "=20", "  ": " =20", " a": " a", "a ": "a=20", "a  ": "a =20", " \r\n": "=20\r\n", "\r\n ": "\r\n=20", "\r\n \r\n": "\r\n=20\r\n",
		"a \r\nb": "a=20\r\nb", "a  \r\n b": "a =20\r\n b", "a\t\r\nb": "a=09\r\nb", "a\t": "a=09", "\x7f\r\n": "=7F\r\n", "\x80\r\n": "=80\r\n",
		// A lone 13 or 10 ends no line.
		" \r": " =0D", " \n": " =0A", " \rb": " =0Db", " \nb": " =0Ab", " \n\r": " =0A=0D", " \r \n": " =0D =0A",
	} {
		if got, code := impl.QuotedText([]byte(plain)); got != text || code != impl.OK {
			t.Errorf("QuotedText(%q) = %q, %d, not %q", plain, got, code, text)
		}
		checkQuoted(t, plain)
	}
}

func TestQuotedLoneEnds(t *testing.T) {
	for plain, text := range map[string]string{
		"\r": "=0D", "\n": "=0A", "\n\r": "=0A=0D", "\r\r": "=0D=0D", "\n\n": "=0A=0A", "a\rb": "a=0Db", "a\nb": "a=0Ab",
		"\r\n": "\r\n", "\r\r\n": "=0D\r\n", "\r\n\n": "\r\n=0A", "\r\n\r": "\r\n=0D", "\n\r\n": "=0A\r\n", "\r\r\n\n": "=0D\r\n=0A",
		"\r\n\r\n": "\r\n\r\n", "a\r\n\r\n\r\nb\r\n": "a\r\n\r\n\r\nb\r\n", "\r\n\r\n\r": "\r\n\r\n=0D",
	} {
		if got, code := impl.QuotedText([]byte(plain)); got != text || code != impl.OK {
			t.Errorf("QuotedText(%q) = %q, %d, not %q", plain, got, code, text)
		}
		checkQuoted(t, plain)
	}
	// All texts of up to seven such bytes.
	for n := range 8 {
		for i := range 1 << (2 * n) {
			x := make([]byte, n)
			for j := range x {
				x[j] = "\r\n a"[i>>(2*j)&3]
			}
			checkQuoted(t, string(x))
		}
	}
}

func TestQuotedWidths(t *testing.T) {
	xs := strings.Repeat("x", 200)
	for plain, text := range map[string]string{
		xs[:74]: xs[:74], xs[:75]: xs[:75], xs[:76]: xs[:76],
		xs[:77]:  xs[:75] + "=\r\nxx",
		xs[:151]: xs[:75] + "=\r\n" + xs[:76],
		xs[:152]: xs[:75] + "=\r\n" + xs[:75] + "=\r\nxx",
		// An encoded one as the last.
		xs[:72] + "=": xs[:72] + "=3D", xs[:73] + "=": xs[:73] + "=3D",
		xs[:74] + "=": xs[:74] + "=\r\n=3D", xs[:75] + "=": xs[:75] + "=\r\n=3D", xs[:76] + "=": xs[:75] + "=\r\nx=3D",
		xs[:73] + " ": xs[:73] + "=20", xs[:74] + " ": xs[:74] + "=\r\n=20", xs[:75] + " ": xs[:75] + "=\r\n=20",
		// An encoded one with another behind it.
		xs[:72] + "=y": xs[:72] + "=3Dy", xs[:72] + "=yz": xs[:72] + "=3D=\r\nyz", xs[:73] + "=y": xs[:73] + "=\r\n=3Dy",
		xs[:74] + "=y": xs[:74] + "=\r\n=3Dy", xs[:72] + "==": xs[:72] + "=3D=\r\n=3D", xs[:70] + "==": xs[:70] + "=3D=3D",
		xs[:71] + "==": xs[:71] + "=3D=\r\n=3D", xs[:73] + "\r": xs[:73] + "=0D",
		// A blank ahead of a line that goes on stays.
		xs[:74] + " yz": xs[:74] + " =\r\nyz", xs[:74] + " y": xs[:74] + " y", xs[:75] + " y": xs[:75] + "=\r\n y",
	} {
		for _, ahead := range []string{"", "\r\n", "a\r\n", xs[:76] + "\r\n"} {
			for _, behind := range []string{"", "\r\n", "\r\nb", "\r\n\r\n"} {
				if got, code := impl.QuotedText([]byte(ahead + plain + behind)); got != ahead+text+behind || code != impl.OK {
					t.Errorf("QuotedText(%q) = %q, %d, not %q", ahead+plain+behind, got, code, ahead+text+behind)
				}
				checkQuoted(t, ahead+plain+behind)
			}
		}
	}
	for n := range 320 {
		for _, end := range []string{"", "=", " ", "\x80y", "\r", "\n", "==", " =", "= ", "  ", "\r\n", " \r\n", "=\r\n", "\r\n\r\n", "\r\ny"} {
			checkQuoted(t, strings.Repeat("x", n)+end)
			checkQuoted(t, strings.Repeat("=", n)+end)
			checkQuoted(t, strings.Repeat(" ", n)+end)
			checkQuoted(t, strings.Repeat("x=", n)+end)
		}
	}
}

func TestQuotedBounds(t *testing.T) {
	for _, c := range []string{"x", "=", " ", "\x00", "\r\n"} {
		x := strings.Repeat(c, impl.MaxText/len(c))
		got, code := impl.QuotedText([]byte(x))
		if code != impl.OK {
			t.Errorf("QuotedText of MaxText bytes %q: %d", c, code)
		}
		checkQuotedLines(t, got)
		if plain := strings.ReplaceAll(got, "=\r\n", ""); c == "x" && plain != x || c == "=" && plain != strings.Repeat("=3D", impl.MaxText) {
			t.Errorf("QuotedText of MaxText bytes %q: %q", c, brief(got))
		}
		if back, code := impl.ReadQuoted(got); len(got) > impl.MaxText && (len(back) != 0 || code != impl.ErrLong) {
			t.Errorf("ReadQuoted of %d bytes: %d, %d", len(got), len(back), code)
		}
		for _, more := range []string{"x", "=", "\n"} {
			if got, code := impl.QuotedText([]byte(x + more)); got != "" || code != impl.ErrLong {
				t.Errorf("QuotedText beyond MaxText: %d, %d", len(got), code)
			}
			if got, code := impl.ReadQuoted(x + more); len(got) != 0 || code != impl.ErrLong {
				t.Errorf("ReadQuoted beyond MaxText: %d, %d", len(got), code)
			}
		}
	}
	if got, code := impl.ReadQuoted(fullText); string(got) != fullText || code != impl.OK {
		t.Errorf("ReadQuoted of MaxText bytes: %d, %d", len(got), code)
	}
	if got, code := impl.ReadQuoted(fullText[1:] + "="); len(got) != 0 || code != impl.ErrForm {
		t.Errorf("ReadQuoted of MaxText bytes, wrong at the end: %d, %d", len(got), code)
	}
}

// What QuotedText never makes is read all the same, as long as it has the form.
func TestReadQuoted(t *testing.T) {
	for text, plain := range map[string]string{
		"": "", "=\r\n": "", "a=\r\nb": "ab", "a=\r\n=\r\nb": "ab", "a=\r\n": "a", "=\r\na": "a", "=\r\n\r\n": "\r\n", "\r\n=\r\n": "\r\n",
		"\r\n": "\r\n", "\r\n\r\n": "\r\n\r\n", "a \r\n": "a \r\n", "a ": "a ", " ": " ", "~": "~", "=41": "A", "=61=62": "ab", "=3D": "=", "=3D3D": "=3D",
		"=0D=0A": "\r\n", "=0D\r\n": "\r\r\n", "=00=FF": "\x00\xff", "=20\r\n": " \r\n", "=7F=80": "\x7f\x80", "=AF=FA=09": "\xaf\xfa\t",
	} {
		if b, code := impl.ReadQuoted(text); string(b) != plain || code != impl.OK {
			t.Errorf("ReadQuoted(%q) = %q, %d, not %q", text, b, code, plain)
		}
	}
	long := strings.Repeat("y", 1000)
	if b, code := impl.ReadQuoted(long); string(b) != long || code != impl.OK {
		t.Errorf("ReadQuoted of a long line = %q, %d", b, code)
	}
}

func TestReadQuotedEachByte(t *testing.T) {
	for c := range 256 {
		one := string([]byte{byte(c)})
		right := c >= 32 && c <= 126 && c != '='
		for _, x := range []string{one, "a" + one, one + "a", "\r\n" + one, one + "\r\n", "=\r\n" + one, "=41" + one} {
			want, code := strings.ReplaceAll(strings.ReplaceAll(x, "=\r\n", ""), "=41", "A"), impl.OK
			if !right && x != "=\r\n" {
				want, code = "", impl.ErrForm
			}
			if b, got := impl.ReadQuoted(x); string(b) != want || got != code {
				t.Errorf("ReadQuoted(%q) = %q, %d, not %q, %d", x, b, got, want, code)
			}
		}
	}
}

func TestReadQuotedDigits(t *testing.T) {
	const digits = "0123456789ABCDEF"
	for a := range 256 {
		for b := range 256 {
			x := string([]byte{'=', byte(a), byte(b)})
			high, low := strings.IndexByte(digits, byte(a)), strings.IndexByte(digits, byte(b))
			want, code := "", impl.ErrForm
			if high >= 0 && low >= 0 {
				want, code = string([]byte{byte(16*high + low)}), impl.OK
			} else if x == "=\r\n" {
				code = impl.OK
			}
			if got, is := impl.ReadQuoted(x); string(got) != want || is != code {
				t.Errorf("ReadQuoted(%q) = %q, %d, not %q, %d", x, got, is, want, code)
			}
		}
	}
}

func TestReadQuotedWrong(t *testing.T) {
	for _, x := range []string{
		"=", "a=", "=4", "a=4", "=4g", "=g4", "=3d", "=c3=A4", "=C3=a4", "=aF", "=Fa", "==", "===", "==41", "=41=", "=4=41",
		"=\r", "=\n", "=\ra", "=\r\r\n", "=\n\r", "= \r\n", "=\t\r\n", "= 4", "=4 ", "=\r\n=", "=\r\n=\r", "= ",
		"\r", "\n", "\r\r\n", "\r\n\n", "\r\n\r", "\n\r", "a\nb", "a\rb", "\t", "a\tb", "\x00", "\x1f", "\x7f", "\x80", "\xff", "\u00e4",
	} {
		for _, ahead := range []string{"", "plain ", "plain\r\n", "=41"} {
			if b, code := impl.ReadQuoted(ahead + x); len(b) != 0 || code != impl.ErrForm {
				t.Errorf("ReadQuoted(%q) = %q, %d", ahead+x, b, code)
			}
		}
	}
}

func TestLongestLine(t *testing.T) {
	for text, want := range map[string]int{
		"": 0, "a": 1, "\r\n": 0, "\r\n\r\n": 0, "a\r\n": 1, "\r\na": 1,
		"abcd\r\nab\r\nabc": 4, "abcd\r\nab\r\nabc\r\n": 4, "ab\r\nabcd\r\nabc": 4, "ab\r\nabcd\r\nabc\r\n": 4,
		"ab\r\nabc\r\nabcd": 4, "ab\r\nabc\r\nabcd\r\n": 4, "\r\n\r\nabcd\r\n\r\n": 4, "abc\r\nabc": 3,
		// A lone 13 or 10 is a byte of its line.
		"ab\ncd": 5, "ab\rcd": 5, "ab\n\rcd": 6, "\r": 1, "\n": 1, "\r\r\n": 1, "\r\n\r": 1, "\r\n\n": 1, "ab\r\r\n\n": 3, "ab\r\n\ncde": 4,
		"\u00e4\u20ac\r\na": 5, "\x00\xff": 2, "a=\r\nb": 2, "  \r\n ": 2,
	} {
		if got := impl.LongestLine(text); got != want {
			t.Errorf("LongestLine(%q) = %d, not %d", text, got, want)
		}
	}
	for x, want := range map[string]int{
		fullText: impl.MaxText, fullText[2:] + "\r\n": impl.MaxText - 2, "\r\n" + fullText[3:] + "\r": impl.MaxText - 2,
	} {
		if got := impl.LongestLine(x); got != want {
			t.Errorf("LongestLine of MaxText bytes = %d, not %d", got, want)
		}
	}
	for _, x := range []string{longText, "a\r\n" + fullText, fullText + "\r\n", endlessText} {
		if got := impl.LongestLine(x); got != 0 {
			t.Errorf("LongestLine beyond MaxText = %d", got)
		}
	}
}
