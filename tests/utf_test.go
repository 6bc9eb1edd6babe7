package tests

import (
	"math"
	"slices"
	"strings"
	"testing"

	"loop.example/g00268/impl"
)

var (
	fullText    = strings.Repeat("a", impl.MaxText)
	longText    = strings.Repeat("a", impl.MaxText+1)
	endlessText = strings.Repeat("\xff", 40*impl.MaxText)
)

func brief(t string) string {
	if len(t) > 40 {
		return t[:40] + ".."
	}
	return t
}

// isRune is chapter 2's rule.
func isRune(r int) bool {
	return 0 <= r && r < 0xd800 || 0xdfff < r && r <= 0x10ffff
}

// form is r in n bytes of UTF-8's shape, the shortest or not, a rune or not.
func form(r, n int) string {
	if n == 1 {
		return string([]byte{byte(r)})
	}
	b := make([]byte, n)
	for i := n - 1; i > 0; i-- {
		b[i] = byte(0x80 + r%64)
		r /= 64
	}
	b[0] = byte([]int{0, 0, 0xc0, 0xe0, 0xf0, 0xf8, 0xfc}[n] + r)
	return string(b)
}

func shortest(r int) string {
	switch {
	case r < 0x80:
		return form(r, 1)
	case r < 0x800:
		return form(r, 2)
	case r < 0x10000:
		return form(r, 3)
	}
	return form(r, 4)
}

// firstRune is the rune whose shortest form t begins with, and how long that is; 0 bytes if there is none.
func firstRune(t string) (int, int) {
	for n := 1; n <= 4 && n <= len(t); n++ {
		r := int(t[0]) % (256 >> (n + 1))
		if n == 1 {
			r = int(t[0])
		}
		for i := 1; i < n; i++ {
			r = r*64 + int(t[i])%64
		}
		if isRune(r) && shortest(r) == t[:n] {
			return r, n
		}
	}
	return 0, 0
}

// readText is what a text is made of, told otherwise than the program does.
func readText(t string) (runes []int, repaired string, right bool) {
	right = true
	for i := 0; i < len(t); {
		r, n := firstRune(t[i:])
		if n == 0 {
			right = false
			repaired += "\xef\xbf\xbd"
			i++
			continue
		}
		runes = append(runes, r)
		repaired += t[i : i+n]
		i += n
	}
	if !right {
		runes = nil
	}
	return runes, repaired, right
}

// checkText asks all of chapter 2 of a text of at most MaxText bytes.
func checkText(t *testing.T, x string) {
	t.Helper()
	runes, repaired, right := readText(x)
	if got := impl.ValidText(x); got != right {
		t.Errorf("ValidText(%q) = %v", x, got)
	}
	if got, code := impl.RepairText(x); got != repaired || code != impl.OK {
		t.Errorf("RepairText(%q) = %q, %d, not %q", x, got, code, repaired)
	}
	if !impl.ValidText(repaired) {
		t.Errorf("%q, repaired, is not right", x)
	}
	want := impl.OK
	if !right {
		want = impl.ErrForm
	}
	got, code := impl.RunesOf(x)
	if !slices.Equal(got, runes) || code != want {
		t.Errorf("RunesOf(%q) = %x, %d, not %x, %d", x, got, code, runes, want)
	}
	if back, code := impl.TextOfRunes(got); right && (back != x || code != impl.OK) {
		t.Errorf("the runes of %q are put together to %q, %d", x, back, code)
	}
	for n := -1; n <= len(x)+1; n++ {
		checkCut(t, x, n, right)
	}
}

func checkCut(t *testing.T, x string, n int, right bool) {
	t.Helper()
	wantText, want := "", impl.OK
	switch {
	case !right:
		want = impl.ErrForm
	case n < 0:
		want = impl.ErrRange
	default:
		// Rune by rune, as long as the next one has room.
		for rest := x; rest != ""; {
			_, size := firstRune(rest)
			if len(wantText)+size > n {
				break
			}
			wantText += rest[:size]
			rest = rest[size:]
		}
	}
	if got, code := impl.CutRunes(x, n); got != wantText || code != want {
		t.Errorf("CutRunes(%q, %d) = %q, %d, not %q, %d", x, n, got, code, wantText, want)
	}
}

func TestOrdinaryTexts(t *testing.T) {
	for _, x := range []string{
		"", "a", "plain words", "line\r\nline\n", "\x00\x01\x7f",
		"a\u00e4\u20ac\U0001f600", "\u0416\u0443\u0440\u043d\u0430\u043b", "\u65e5\u672c\u8a9e",
		"\ufffd", "\ufffd\ufffd", "a\ufffdb", "e\u0301", "\ufeffbom", "\ufffe\uffff", "\U0001f468\u200d\U0001f469",
	} {
		if !impl.ValidText(x) {
			t.Errorf("ValidText(%q) is false", x)
		}
		checkText(t, x)
	}
}

// A rune 0xfffd of the text and a byte at which none begins are not the same.
func TestStandInBesideWrongBytes(t *testing.T) {
	for _, x := range []string{
		"\ufffd\xff", "\xff\ufffd", "\ufffd\xef\xbf", "\xef\xbf\ufffd", "\xef\xbf\xbd\xbd", "\xef\xef\xbf\xbd", "\xbf\xbd",
	} {
		if impl.ValidText(x) {
			t.Errorf("ValidText(%q)", x)
		}
		checkText(t, x)
	}
}

func TestEachRune(t *testing.T) {
	for r := 0; r <= 0x10ffff; r++ {
		x := shortest(r)
		size := len(x)
		if !isRune(r) {
			size = 0
		}
		if got := impl.RuneSize(r); got != size {
			t.Fatalf("RuneSize(%x) = %d, not %d", r, got, size)
		}
		got, code := impl.TextOfRunes([]int{r})
		if size == 0 {
			if got != "" || code != impl.ErrRange || impl.ValidText(x) {
				t.Fatalf("%x is taken for a rune: %q, %d", r, got, code)
			}
			continue
		}
		if got != x || code != impl.OK {
			t.Fatalf("TextOfRunes of %x: %q, %d", r, got, code)
		}
		if list, code := impl.RunesOf(x); len(list) != 1 || list[0] != r || code != impl.OK || !impl.ValidText(x) {
			t.Fatalf("RunesOf of %x: %x, %d", r, list, code)
		}
		if got, code := impl.RepairText(x); got != x || code != impl.OK {
			t.Fatalf("RepairText of %x: %q, %d", r, got, code)
		}
	}
}

func TestNamedEdges(t *testing.T) {
	for r, want := range map[int]int{
		-1: 0, 0: 1, 0x7f: 1, 0x80: 2, 0x7ff: 2, 0x800: 3, 0xd7ff: 3, 0xd800: 0, 0xdbff: 0, 0xdc00: 0,
		0xdfff: 0, 0xe000: 3, 0xfffd: 3, 0xfffe: 3, 0xffff: 3, 0x10000: 4, 0x10ffff: 4, 0x110000: 0, 0x1fffff: 0, 0x7fffffff: 0,
	} {
		if got := impl.RuneSize(r); got != want {
			t.Errorf("RuneSize(%x) = %d, not %d", r, got, want)
		}
		if r >= 0 && r <= 0x1fffff {
			checkText(t, shortest(r))
			checkText(t, "a"+shortest(r)+"\u20ac"+shortest(r))
		}
	}
}

// A form that is not the shortest is wrong at each of its bytes.
func TestLongForms(t *testing.T) {
	for _, r := range []int{0, 1, '/', 'a', 0x7f, 0x80, 0xff, 0x7ff, 0x800, 0xfff, 0xfffd, 0xffff, 0x10000, 0x10ffff} {
		for n := len(shortest(r)) + 1; n <= 6; n++ {
			x := form(r, n)
			if impl.ValidText(x) {
				t.Errorf("%x in %d bytes is right", r, n)
			}
			want := strings.Repeat("\ufffd", n)
			if got, code := impl.RepairText(x); got != want || code != impl.OK {
				t.Errorf("%x in %d bytes, repaired: %q, %d", r, n, got, code)
			}
			checkText(t, x)
			checkText(t, "a"+x+"b")
		}
	}
}

func TestEndsWithinARune(t *testing.T) {
	for _, r := range []int{0x80, 0x7ff, 0x800, 0x20ac, 0xffff, 0x10000, 0x1f600, 0x10ffff} {
		x := shortest(r)
		for n := 1; n < len(x); n++ {
			for _, ahead := range []string{"", "a", "\u00e4", "\ufffd"} {
				if impl.ValidText(ahead + x[:n]) {
					t.Errorf("%q is right", ahead+x[:n])
				}
				checkText(t, ahead+x[:n])
				checkText(t, ahead+x[:n]+"a")
				checkText(t, ahead+x[:n]+x)
				checkText(t, ahead+x[n:])
			}
		}
	}
}

// Bytes at both sides of each bound of UTF-8's forms.
const boundBytes = "\x00a\x7f\x80\x8f\x90\x9f\xa0\xbd\xbf\xc0\xc1\xc2\xdf\xe0\xe1\xec\xed\xee\xef\xf0\xf1\xf3\xf4\xf5\xf7\xf8\xff"

func TestAllShortTexts(t *testing.T) {
	for a := range 256 {
		checkText(t, string([]byte{byte(a)}))
		for b := range 256 {
			checkText(t, string([]byte{byte(a), byte(b)}))
		}
	}
	for i := range len(boundBytes) {
		for j := range len(boundBytes) {
			for k := range len(boundBytes) {
				checkText(t, string([]byte{boundBytes[i], boundBytes[j], boundBytes[k]}))
				checkText(t, string([]byte{0xf0 + byte(i%6), boundBytes[i], boundBytes[j], boundBytes[k]}))
			}
		}
	}
}

func TestWrongNumbers(t *testing.T) {
	for _, r := range []int{
		-1, -128, -0xd800, math.MinInt, math.MinInt32, math.MaxInt, math.MaxInt32, 0x110000,
		1 << 32, 1<<32 + 'a', 1<<63 - 1, -(1 << 32) + 'a', 0xd800 + 1<<32, 0xd800, 0xdfff,
	} {
		if got := impl.RuneSize(r); got != 0 {
			t.Errorf("RuneSize(%d) = %d", r, got)
		}
		for _, list := range [][]int{{r}, {'a', r}, {r, 'a'}, {'a', r, 0x20ac}, {r, r}} {
			if got, code := impl.TextOfRunes(list); got != "" || code != impl.ErrRange {
				t.Errorf("TextOfRunes(%d) = %q, %d", list, got, code)
			}
		}
	}
}

func TestNothing(t *testing.T) {
	for _, list := range [][]int{nil, {}} {
		if got, code := impl.TextOfRunes(list); got != "" || code != impl.OK {
			t.Errorf("TextOfRunes of none: %q, %d", got, code)
		}
	}
	checkText(t, "")
}

func TestCutBounds(t *testing.T) {
	x := "a\u00e4\u20ac\U0001f600"
	for n, want := range map[int]string{
		0: "", 1: "a", 2: "a", 3: "a\u00e4", 4: "a\u00e4", 5: "a\u00e4", 6: "a\u00e4\u20ac",
		9: "a\u00e4\u20ac", 10: x, 11: x, impl.MaxText + 1: x, math.MaxInt: x,
	} {
		if got, code := impl.CutRunes(x, n); got != want || code != impl.OK {
			t.Errorf("CutRunes(%d) = %q, %d", n, got, code)
		}
	}
	for _, n := range []int{-1, -2, math.MinInt} {
		for _, x := range []string{"", "a", x} {
			if got, code := impl.CutRunes(x, n); got != "" || code != impl.ErrRange {
				t.Errorf("CutRunes(%q, %d) = %q, %d", x, n, got, code)
			}
		}
		if got, code := impl.CutRunes("a\xff", n); got != "" || code != impl.ErrForm {
			t.Errorf("a wrong text comes ahead of %d: %q, %d", n, got, code)
		}
	}
	// What is wrong counts wherever it stands, behind the cut too.
	if got, code := impl.CutRunes("abc\xff", 1); got != "" || code != impl.ErrForm {
		t.Errorf("CutRunes of a wrong text: %q, %d", got, code)
	}
}
