package tests

import (
	"math"
	"strings"
	"testing"

	"loop.example/g00268/impl"
)

// The table of chapter 1, number by number.
var codes = []struct {
	number, constant int
	word             string
}{
	{0, impl.OK, "ok"},
	{1, impl.ErrBad, "bad"},
	{2, impl.ErrLong, "long"},
	{3, impl.ErrForm, "form"},
	{4, impl.ErrRange, "range"},
	{5, impl.ErrNone, "none"},
	{6, impl.ErrMany, "many"},
	{7, impl.ErrFull, "full"},
	{8, impl.ErrSum, "sum"},
	{9, impl.ErrTwice, "twice"},
	{10, impl.ErrDepth, "depth"},
	{11, impl.ErrClose, "close"},
	{12, impl.ErrEntity, "entity"},
	{13, impl.ErrRoot, "root"},
	{14, impl.ErrState, "state"},
	{15, impl.ErrReadOnly, "readonly"},
	{16, impl.ErrFlag, "flag"},
	{17, impl.ErrUid, "uid"},
	{18, impl.ErrMore, "more"},
	{19, impl.ErrGone, "gone"},
}

func TestCodesAndWords(t *testing.T) {
	for _, c := range codes {
		if c.constant != c.number {
			t.Errorf("the constant of %q is %d, not %d", c.word, c.constant, c.number)
		}
		if got := impl.CodeWord(c.number); got != c.word {
			t.Errorf("CodeWord(%d) = %q, not %q", c.number, got, c.word)
		}
		if got := impl.CodeOf(c.word); got != c.number {
			t.Errorf("CodeOf(%q) = %d, not %d", c.word, got, c.number)
		}
	}
}

func TestNoCode(t *testing.T) {
	for _, n := range []int{-1, -2, 20, 21, 255, 256, 1 << 32, 1<<32 + 1, math.MinInt, math.MaxInt} {
		if got := impl.CodeWord(n); got != "" {
			t.Errorf("CodeWord(%d) = %q", n, got)
		}
	}
}

func TestNoWord(t *testing.T) {
	words := []string{
		"", " ", "OK", "Ok", "o", "okk", "ok ", " ok", "ok\n", "0", "1", "read only",
		"ErrBad", "none\x00", "gon", "goner", "\xff", longText, endlessText,
		"ok" + strings.Repeat(" ", impl.MaxText),
	}
	for _, w := range words {
		if got := impl.CodeOf(w); got != -1 {
			t.Errorf("CodeOf(%s) = %d", brief(w), got)
		}
	}
}

func TestLimits(t *testing.T) {
	if impl.MaxText != 65536 || impl.MaxList != 4096 || impl.MaxName != 40 {
		t.Error("limits", impl.MaxText, impl.MaxList, impl.MaxName)
	}
}

// What a name's byte may be, told otherwise than the program does.
const (
	nameLetters = "abcdefghijklmnopqrstuvwxyzABCDEFGHIJKLMNOPQRSTUVWXYZ_"
	nameDigits  = "0123456789"
)

func TestNameBytes(t *testing.T) {
	for b := range 256 {
		c := string([]byte{byte(b)})
		letter := strings.Contains(nameLetters, c)
		later := letter || strings.Contains(nameDigits, c)
		for name, want := range map[string]bool{
			c:                                       letter,
			c + "a":                                 letter,
			"a" + c:                                 later,
			"_" + c + "Z":                           later,
			strings.Repeat("x", impl.MaxName-1) + c: later,
		} {
			if got := impl.NameOK(name); got != want {
				t.Errorf("NameOK(%q) = %v", name, got)
			}
		}
	}
}

func TestNameLengths(t *testing.T) {
	for n := range 200 {
		want := n >= 1 && n <= impl.MaxName
		for _, c := range []string{"a", "Z", "_"} {
			if got := impl.NameOK(strings.Repeat(c, n)); got != want {
				t.Errorf("NameOK of %d %q = %v", n, c, got)
			}
		}
	}
	for _, name := range []string{longText, endlessText, strings.Repeat("a", impl.MaxText), "\u00e4", "a\u00e4", "a b", " a", "a "} {
		if impl.NameOK(name) {
			t.Errorf("NameOK(%s)", brief(name))
		}
	}
}
