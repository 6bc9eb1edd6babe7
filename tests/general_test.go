package tests

import (
	"math"
	"reflect"
	"slices"
	"strings"
	"testing"
	"unsafe"

	"loop.example/g00268/impl"
)

// Texts of all sorts: right, wrong, empty, at the bounds and beyond them.
func sampleTexts() []string {
	return []string{
		"", "a", "_name9", "9name", "ok", "gone", "none such", "a\u00e4\u20ac\U0001f600", "\ufffd",
		"\xff", "\xc0\x80", "a\xe2\x82", "\xed\xa0\x80", "\xf4\x90\x80\x80", "\x80b\xff",
		strings.Repeat("n", impl.MaxName), strings.Repeat("n", impl.MaxName+1),
		strings.Repeat("\u20ac", impl.MaxList), fullText, strings.Repeat("\xff", impl.MaxText),
		longText, fullText + "\xff", endlessText,
	}
}

func sampleNumbers() []int {
	return []int{
		0, 1, 2, 19, 20, -1, 0x7f, 0x80, 0xd800, 0x10ffff, 0x110000, impl.MaxText, impl.MaxText + 1,
		1 << 32, math.MaxInt, math.MinInt,
	}
}

func sampleLists() [][]int {
	return [][]int{
		nil, {}, {'a'}, {'a', 0xe4, 0x20ac, 0x1f600}, {0xd800}, {'a', -1}, {math.MaxInt}, {math.MinInt, 'b'},
		slices.Repeat([]int{0x10ffff}, impl.MaxList), slices.Repeat([]int{'a'}, impl.MaxList+1),
		slices.Repeat([]int{-1}, impl.MaxList+1), slices.Repeat([]int{-1}, 40*impl.MaxList),
	}
}

// allAnswers is what every call of chapters 1 and 2 answers to the samples, asked from the last one on if back.
func allAnswers(back bool) map[string][]any {
	answers := map[string][]any{}
	var calls []func()
	ask := func(name string, call func() []any) {
		calls = append(calls, func() { answers[name] = append(answers[name], call()...) })
	}
	for _, x := range sampleTexts() {
		ask("NameOK"+x, func() []any { return []any{impl.NameOK(x)} })
		ask("CodeOf"+x, func() []any { return []any{impl.CodeOf(x)} })
		ask("ValidText"+x, func() []any { return []any{impl.ValidText(x)} })
		ask("RepairText"+x, func() []any { s, code := impl.RepairText(x); return []any{s, code} })
		ask("RunesOf"+x, func() []any { list, code := impl.RunesOf(x); return []any{append([]int{}, list...), code} })
		ask("CutRunes"+x, func() []any {
			var all []any
			for _, n := range sampleNumbers() {
				s, code := impl.CutRunes(x, n)
				all = append(all, s, code)
			}
			return all
		})
	}
	ask("numbers", func() []any {
		var all []any
		for _, n := range sampleNumbers() {
			all = append(all, impl.CodeWord(n), impl.RuneSize(n))
		}
		return all
	})
	ask("TextOfRunes", func() []any {
		var all []any
		for _, list := range sampleLists() {
			s, code := impl.TextOfRunes(list)
			all = append(all, s, code)
		}
		return all
	})
	if back {
		slices.Reverse(calls)
	}
	for _, call := range calls {
		call()
	}
	return answers
}

func TestAlikeAnswers(t *testing.T) {
	first := allAnswers(false)
	if !reflect.DeepEqual(first, allAnswers(false)) {
		t.Error("alike arguments had other answers the second time")
	}
	if !reflect.DeepEqual(first, allAnswers(true)) {
		t.Error("answers hang on what was called ahead")
	}
	again := make(chan map[string][]any)
	for range 4 {
		go func() { again <- allAnswers(true) }()
	}
	for range 4 {
		if !reflect.DeepEqual(first, <-again) {
			t.Error("answers hang on what is called beside")
		}
	}
}

// A code other than 0 leaves all else zero.
func TestZeroBesideACode(t *testing.T) {
	for _, x := range sampleTexts() {
		if s, code := impl.RepairText(x); code != impl.OK && s != "" {
			t.Errorf("RepairText(%q): %q beside %d", brief(x), brief(s), code)
		}
		if list, code := impl.RunesOf(x); code != impl.OK && len(list) != 0 {
			t.Errorf("RunesOf(%q): %d runes beside %d", brief(x), len(list), code)
		}
		for _, n := range sampleNumbers() {
			if s, code := impl.CutRunes(x, n); code != impl.OK && s != "" {
				t.Errorf("CutRunes(%q, %d): %q beside %d", brief(x), n, brief(s), code)
			}
		}
	}
	for _, list := range sampleLists() {
		if s, code := impl.TextOfRunes(list); code != impl.OK && s != "" {
			t.Errorf("TextOfRunes of %d: %q beside %d", len(list), brief(s), code)
		}
	}
}

func TestTextOfMaxText(t *testing.T) {
	wide := strings.Repeat("\U0001f600", impl.MaxText/4)
	for _, x := range []string{fullText, wide} {
		if !impl.ValidText(x) {
			t.Error("ValidText of MaxText bytes is false")
		}
		if s, code := impl.RepairText(x); s != x || code != impl.OK {
			t.Error("RepairText of MaxText bytes:", code)
		}
		for _, n := range []int{impl.MaxText, impl.MaxText + 1, math.MaxInt} {
			if s, code := impl.CutRunes(x, n); s != x || code != impl.OK {
				t.Error("CutRunes of MaxText bytes:", n, code)
			}
		}
	}
	if list, code := impl.RunesOf(fullText); len(list) != impl.MaxText || code != impl.OK {
		t.Error("RunesOf of MaxText bytes:", len(list), code)
	}
	if s, code := impl.CutRunes(wide, impl.MaxText-1); s != wide[:impl.MaxText-4] || code != impl.OK {
		t.Error("CutRunes one byte short of MaxText:", len(s), code)
	}
	// What is repaired may be longer than what may be handed in.
	s, code := impl.RepairText(strings.Repeat("\xff", impl.MaxText))
	if s != strings.Repeat("\ufffd", impl.MaxText) || code != impl.OK {
		t.Error("RepairText of MaxText wrong bytes:", len(s), code)
	}
}

// ErrLong comes ahead of all other codes; without a code the answer is zero.
func TestTextBeyondMaxText(t *testing.T) {
	for _, x := range []string{longText, fullText + "\xff", "\xff" + fullText, endlessText} {
		if impl.ValidText(x) {
			t.Error("ValidText beyond MaxText")
		}
		if s, code := impl.RepairText(x); s != "" || code != impl.ErrLong {
			t.Error("RepairText beyond MaxText:", len(s), code)
		}
		if list, code := impl.RunesOf(x); len(list) != 0 || code != impl.ErrLong {
			t.Error("RunesOf beyond MaxText:", len(list), code)
		}
		for _, n := range []int{-1, 0, 1, math.MaxInt, math.MinInt} {
			if s, code := impl.CutRunes(x, n); s != "" || code != impl.ErrLong {
				t.Error("CutRunes beyond MaxText:", n, len(s), code)
			}
		}
	}
}

func TestListOfMaxList(t *testing.T) {
	list := slices.Repeat([]int{0x20ac}, impl.MaxList)
	if s, code := impl.TextOfRunes(list); s != strings.Repeat("\u20ac", impl.MaxList) || code != impl.OK {
		t.Error("TextOfRunes of MaxList:", len(s), code)
	}
	if back, code := impl.RunesOf(strings.Repeat("\u20ac", impl.MaxList)); !slices.Equal(back, list) || code != impl.OK {
		t.Error("RunesOf of MaxList runes:", len(back), code)
	}
	list[impl.MaxList-1] = 0xd800
	if s, code := impl.TextOfRunes(list); s != "" || code != impl.ErrRange {
		t.Error("TextOfRunes of MaxList with a wrong last one:", len(s), code)
	}
	for _, r := range []int{'a', -1, 0xd800} {
		if s, code := impl.TextOfRunes(slices.Repeat([]int{r}, impl.MaxList+1)); s != "" || code != impl.ErrLong {
			t.Error("TextOfRunes beyond MaxList:", r, len(s), code)
		}
	}
}

// Nothing is written into a list that is handed in, nor behind its end.
func TestListStays(t *testing.T) {
	for _, list := range sampleLists() {
		room := append(slices.Clone(list), 1, 2, 3, 4, 5, 6, 7, 8)
		before := slices.Clone(room)
		impl.TextOfRunes(room[:len(list)])
		if !slices.Equal(room, before) {
			t.Errorf("TextOfRunes wrote into a list of %d", len(list))
		}
	}
}

func TestAnswersAreNewMemory(t *testing.T) {
	const x = "a\u00e4\u20ac"
	list, _ := impl.RunesOf(x)
	other, _ := impl.RunesOf(x)
	for i := range list {
		list[i] = 0
	}
	_ = append(list, 0)
	again, _ := impl.RunesOf(x)
	want := []int{'a', 0xe4, 0x20ac}
	if !slices.Equal(other, want) || !slices.Equal(again, want) {
		t.Errorf("answers of RunesOf share memory: %x %x", other, again)
	}
	runes := slices.Clone(want)
	s, _ := impl.TextOfRunes(runes)
	clear(runes)
	if s != x {
		t.Errorf("an answer of TextOfRunes follows its argument: %q", s)
	}
	for _, x := range []string{"a", "ab\u00e4", strings.Repeat("plain words ", 100)} {
		x = strings.Clone(x)
		repaired, _ := impl.RepairText(x)
		whole, _ := impl.CutRunes(x, len(x))
		part, _ := impl.CutRunes(x, len(x)-1)
		for name, s := range map[string]string{"RepairText": repaired, "CutRunes, whole": whole, "CutRunes, a part": part} {
			if shareMemory(x, s) {
				t.Errorf("%s of %q shares memory with it", name, brief(x))
			}
		}
	}
}

func shareMemory(a, b string) bool {
	if a == "" || b == "" {
		return false
	}
	from, at := uintptr(unsafe.Pointer(unsafe.StringData(a))), uintptr(unsafe.Pointer(unsafe.StringData(b)))
	return at < from+uintptr(len(a)) && from < at+uintptr(len(b))
}
