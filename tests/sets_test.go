package tests

import (
	"math"
	"math/rand"
	"slices"
	"strings"
	"testing"

	"loop.example/g00268/impl"
)

// rangesOf is a range of each two ends.
func rangesOf(ends ...int) []impl.Range {
	var list []impl.Range
	for pair := range slices.Chunk(ends, 2) {
		list = append(list, impl.Range{From: pair[0], To: pair[1]})
	}
	return list
}

func TestTopOfNumbers(t *testing.T) {
	if impl.MaxNumber != 4294967295 {
		t.Error("MaxNumber is", impl.MaxNumber)
	}
}

func TestSets(t *testing.T) {
	for text, want := range map[string][]impl.Range{
		"1": rangesOf(1, 1), "7": rangesOf(7, 7), "*": rangesOf(0, 0), "1:2": rangesOf(1, 2), "2:1": rangesOf(2, 1), "1:*": rangesOf(1, 0), "*:1": rangesOf(0, 1), "10": rangesOf(10, 10), "100:200": rangesOf(100, 200), "9:10": rangesOf(9, 10), "10:9": rangesOf(10, 9),
		"1,2": rangesOf(1, 1, 2, 2), "2,1": rangesOf(2, 2, 1, 1), "1,1": rangesOf(1, 1, 1, 1), "*,*": rangesOf(0, 0, 0, 0), "1:3,2:4": rangesOf(1, 3, 2, 4), "1,5:3,*:7": rangesOf(1, 1, 5, 3, 0, 7), "*,1:*,3,*:2": rangesOf(0, 0, 1, 0, 3, 3, 0, 2),
		"4294967295": rangesOf(4294967295, 4294967295), "4294967295:1": rangesOf(4294967295, 1), "4294967294:*": rangesOf(4294967294, 0), "2147483647:2147483648": rangesOf(2147483647, 2147483648),
	} {
		if list, code := checkSet(t, text); !slices.Equal(list, want) || code != impl.OK {
			t.Errorf("ReadSet(%q) = %v, %d, not %v", text, list, code, want)
		}
		if got, code := checkSetText(t, want); got != text || code != impl.OK {
			t.Errorf("SetText(%v) = %q, %d, not %q", want, got, code, text)
		}
	}
	// Two ends that are the same are told as one, and one is both.
	for text, want := range map[string]string{"1:1": "1", "*:*": "*", "4294967295:4294967295": "4294967295", "3:3,3": "3,3", "1:1,*:*,2:2": "1,*,2"} {
		list, code := checkSet(t, text)
		if got, gotCode := checkSetText(t, list); got != want || code != impl.OK || gotCode != impl.OK {
			t.Errorf("the set of %q has the text %q", text, got)
		}
	}
}

func TestSetsAreReadBack(t *testing.T) {
	source := rand.New(rand.NewSource(12))
	for n := 1; n <= 50; n++ {
		for range 40 {
			if _, code := checkSetText(t, madeSet(source, n)); code != impl.OK {
				t.Errorf("SetText of %d made ranges has the code %d", n, code)
			}
		}
		for _, r := range rangesOf(0, 0, 1, 1, 1, 0, 0, 1, 5, 3, 3, 5, 4294967295, 4294967295, 4294967295, 1, 4294967294, 4294967295) {
			if _, code := checkSetText(t, slices.Repeat([]impl.Range{r}, n)); code != impl.OK {
				t.Errorf("SetText of %d of the range %v has the code %d", n, r, code)
			}
		}
	}
	ends := []int{0, 1, 2, 9, 10, 11, 99, 100, 999999999, 1000000000, 2147483647, 2147483648, 4294967294, 4294967295}
	for _, from := range ends {
		for _, to := range ends {
			checkSetText(t, rangesOf(from, to))
			checkSetText(t, rangesOf(to, from, from, from, to, to))
		}
	}
}

func TestManyRanges(t *testing.T) {
	for _, piece := range []string{"1", "*", "1:2", "2:*", "4294967295:4294967294"} {
		for n := 1; n <= 60; n++ {
			text := strings.Repeat(piece+",", n-1) + piece
			list, code := checkSet(t, text)
			if n <= 50 && (len(list) != n || code != impl.OK) || n > 50 && (len(list) != 0 || code != impl.ErrForm) {
				t.Errorf("ReadSet of %d times %q = %v, %d", n, piece, list, code)
			}
			r, _ := setOf(piece)
			ranges := slices.Repeat(r, n)
			if n > 50 {
				checkWrongSet(t, ranges)
				continue
			}
			if got, code := checkSetText(t, ranges); got != text || code != impl.OK {
				t.Errorf("SetText of %d times %q = %q, %d", n, piece, brief(got), code)
			}
			if _, code := checkHas(t, ranges, 1, 1); code != impl.OK {
				t.Errorf("SetHas of %d times %q has the code %d", n, piece, code)
			}
		}
		checkNoSet(t, strings.Repeat(piece+",", 49), impl.ErrForm)
		checkNoSet(t, strings.Repeat(piece+",", 50), impl.ErrForm)
		checkNoSet(t, strings.Repeat(piece+",", 2500)+piece, impl.ErrForm)
	}
	// Only the last one holds the number.
	list := append(slices.Repeat(rangesOf(1, 2), 49), impl.Range{From: 8, To: 6})
	for n, want := range map[int]bool{1: true, 2: true, 3: false, 5: false, 6: true, 7: true, 8: true, 9: false} {
		if has, code := checkHas(t, list, n, 4); has != want || code != impl.OK {
			t.Errorf("SetHas of 50 ranges, %d: %v, %d", n, has, code)
		}
	}
}

func TestNumbersOfSets(t *testing.T) {
	for _, n := range []string{"1", "2", "9", "10", "4294967294", "4294967295", "2147483648", "1000000000", "*"} {
		for _, text := range []string{n, n + ":1", "1:" + n, n + ":" + n, "*:" + n, n + ":*", "1," + n, n + ",1", "2," + n + ",3:4"} {
			if _, code := checkSet(t, text); code != impl.OK {
				t.Errorf("ReadSet(%q) has the code %d", text, code)
			}
		}
	}
	for _, n := range []string{
		"0", "00", "01", "001", "-1", "-0", "+1", "+0", "-", "+", "4294967296", "4294967297", "4294967300", "5000000000", "9999999999", "10000000000", "42949672950", "04294967295", "18446744073709551615", "18446744073709551616", "18446744073709551617", "9223372036854775807", "9223372036854775808", "-9223372036854775808", "8589934592", "8589934593",
		"999999999999999999", "1000000000000000000", "1" + strings.Repeat("0", 100), strings.Repeat("0", 100) + "1", strings.Repeat("9", 1000), strings.Repeat("1", 30000),
		"", " ", "1 ", " 1", "1.0", "1e3", "0x1", "1_0", "a", "**", "*1", "1*", "\u0661", "\uff11", "\u00b9", "\xff", "\x00", "1\x00", "1\n", "\t1", "1\r\n", "$", "#",
	} {
		for _, text := range []string{n, n + ":1", "1:" + n, n + ":" + n, n + ":*", "*:" + n, "1," + n, n + ",1", "2," + n + ",3:4", "1:2:" + n} {
			checkNoSet(t, text, impl.ErrForm)
		}
	}
}

func TestNoSets(t *testing.T) {
	for _, text := range []string{
		"", ",", ":", "::", ",,", "1:", ":1", "1,", ",1", "1,,2", "1:2:3", "1::2", "*:", ":*", "*:*:*", "1:2:", ":1:2", "1,:2", "1:,2", "1;2", "1-2", "1 2", "1, 2", "1 ,2", "1: 2", "(1)", "[1]", "{1}", "\"1\"", "1..2", "all", "ALL", "NOT", "\\Seen", "1:2,", ",1:2", "1,2,:", "*,", ",*", "* ", "1:* ",
	} {
		checkNoSet(t, text, impl.ErrForm)
	}
	for n := range 7 {
		signsOf("012*:,", n, func(text string) { checkSet(t, text) })
	}
	for n := range 4 {
		signsOf("19*:,-+ a\x00", n, func(text string) { checkSet(t, text) })
	}
	for c := range 256 {
		one := string([]byte{byte(c)})
		for _, text := range []string{one, "1" + one, one + "1", "1" + one + "2", "1:2" + one + "3", "*" + one, one + "*", "*" + one + "*", "12,3" + one + "4:5"} {
			checkSet(t, text)
		}
	}
	for _, text := range []string{"1,5:3,*:7", "4294967295,*", "10:*,20"} {
		changed(text, func(text string) { checkSet(t, text) })
	}
}

func TestSetsOfMaxText(t *testing.T) {
	for _, piece := range []string{"1", "1,", "*", ":", "1:", "a", "0", "\xff"} {
		text := strings.Repeat(piece, impl.MaxText)
		for _, size := range []int{impl.MaxText - 1, impl.MaxText} {
			checkNoSet(t, text[:size], impl.ErrForm)
		}
		text += piece
		checkNoSet(t, text[:impl.MaxText+1], impl.ErrLong)
		checkNoSet(t, "1,"+text, impl.ErrLong)
	}
	checkNoSet(t, endlessText, impl.ErrLong)
}

// Each range with ends up to 6, asked of each number, with each top.
func TestNumbersInRanges(t *testing.T) {
	for from := range 7 {
		for to := range 7 {
			for top := range 9 {
				for n := 1; n < 9; n++ {
					one, _ := checkHas(t, rangesOf(from, to), n, top)
					turned, _ := checkHas(t, rangesOf(to, from), n, top)
					if one != turned {
						t.Errorf("SetHas of %d:%d hangs on the order of the ends", from, to)
					}
					two, _ := checkHas(t, rangesOf(from, to, 5, 0), n, top)
					other, _ := checkHas(t, rangesOf(5, 0), n, top)
					if two != (one || other) {
						t.Errorf("SetHas of %d:%d,5:* is not that of one or the other", from, to)
					}
				}
			}
		}
	}
}

func TestStars(t *testing.T) {
	for _, c := range []struct {
		text   string
		n, top int
		want   bool
	}{
		{"*", 1, 1, true}, {"*", 1, 2, false}, {"*", 2, 1, false}, {"*", 1, 0, false}, {"*", 9, 9, true}, {"*", 8, 9, false}, {"*", 10, 9, false},
		{"2:*", 1, 9, false}, {"2:*", 2, 9, true}, {"2:*", 9, 9, true}, {"2:*", 10, 9, false}, {"*:2", 5, 9, true}, {"*:2", 1, 9, false},
		// A range up to a top that is below its other end goes down to it.
		{"12:*", 9, 9, true}, {"12:*", 10, 9, true}, {"12:*", 12, 9, true}, {"12:*", 8, 9, false}, {"12:*", 13, 9, false}, {"*:12", 10, 9, true}, {"*:12", 8, 9, false},
		// Without a mail the top is 0.
		{"2:*", 1, 0, true}, {"2:*", 2, 0, true}, {"2:*", 3, 0, false}, {"*:1", 1, 0, true}, {"*:1", 2, 0, false}, {"1", 1, 0, true}, {"1", 2, 0, false},
		{"*", 4294967295, 4294967295, true}, {"*", 4294967294, 4294967295, false}, {"1:*", 4294967295, 4294967295, true}, {"4294967295:*", 1, 0, true}, {"4294967295:*", 4294967295, 0, true}, {"4294967295:*", 1, 2, false}, {"4294967295", 4294967295, 0, true}, {"4294967295", 4294967294, 1, false},
		{"1,5:3,*:7", 6, 9, false}, {"1,5:3,*:7", 8, 9, true}, {"1,5:3,*:7", 6, 6, true}, {"1,5:3,*:7", 2, 2, true}, {"1,5:3,*:7", 8, 6, false},
	} {
		list, _ := impl.ReadSet(c.text)
		if has, code := checkHas(t, list, c.n, c.top); has != c.want || code != impl.OK {
			t.Errorf("SetHas(%s, %d, %d) = %v, %d", c.text, c.n, c.top, has, code)
		}
	}
}

func TestBoundsOfSetHas(t *testing.T) {
	set := rangesOf(1, 4294967295)
	for _, n := range []int{1, 2, 4294967294, 4294967295} {
		for _, top := range []int{0, 1, 4294967294, 4294967295} {
			if has, code := checkHas(t, set, n, top); !has || code != impl.OK {
				t.Errorf("SetHas of all, %d, %d: %v, %d", n, top, has, code)
			}
		}
		for _, top := range []int{-1, -2, 4294967296, math.MinInt, math.MaxInt} {
			checkHasCode(t, set, n, top, impl.ErrRange)
		}
	}
	for _, n := range []int{0, -1, 4294967296, 4294967297, 1 << 40, math.MinInt, math.MaxInt} {
		for _, top := range []int{0, 1, 4294967295, -1, 4294967296, math.MinInt, math.MaxInt} {
			checkHasCode(t, set, n, top, impl.ErrRange)
			checkHasCode(t, rangesOf(0, 0), n, top, impl.ErrRange)
		}
	}
}

func TestMadeNumbersInSets(t *testing.T) {
	source := rand.New(rand.NewSource(13))
	count := 0
	for range 20000 {
		n, top := madeEnd(source), madeEnd(source)
		if has, _ := checkHas(t, madeSet(source, 1+source.Intn(4)), n, top); has {
			count++
		}
	}
	if count < 1000 || count > 19000 {
		t.Error("made numbers that are in made sets:", count)
	}
}

func TestWrongSets(t *testing.T) {
	for _, list := range [][]impl.Range{nil, {}} {
		checkWrongSet(t, list)
	}
	for _, end := range []int{-1, -2, 4294967296, 4294967297, 1 << 33, math.MinInt, math.MaxInt} {
		for _, r := range rangesOf(end, 1, 1, end, end, end, end, 0, 0, end, 4294967295, end) {
			checkWrongSet(t, []impl.Range{r})
			checkWrongSet(t, append(rangesOf(1, 2), r))
			checkWrongSet(t, append([]impl.Range{r}, rangesOf(0, 0)...))
			checkWrongSet(t, append(slices.Repeat(rangesOf(1, 1), 49), r))
		}
	}
	for _, n := range []int{51, 52, 100, impl.MaxList} {
		checkWrongSet(t, slices.Repeat(rangesOf(1, 1), n))
		checkWrongSet(t, make([]impl.Range, n))
	}
}

// ErrLong is ahead of what else is wrong with the list.
func TestLongSets(t *testing.T) {
	for _, r := range rangesOf(1, 1, -1, math.MaxInt) {
		for _, n := range []int{impl.MaxList + 1, 3 * impl.MaxList} {
			list := slices.Repeat([]impl.Range{r}, n)
			if text, code := checkSetText(t, list); text != "" || code != impl.ErrLong {
				t.Errorf("SetText of %d ranges: %q, %d", n, brief(text), code)
			}
			for _, number := range []int{1, 0, -1, math.MaxInt} {
				checkHasCode(t, list, number, number, impl.ErrLong)
			}
		}
	}
}

func TestFlagsTexts(t *testing.T) {
	for flags, want := range map[int]string{
		0: "()", 1: "(\\Seen)", 2: "(\\Answered)", 4: "(\\Flagged)", 8: "(\\Deleted)", 16: "(\\Draft)", 9: "(\\Seen \\Deleted)", 18: "(\\Answered \\Draft)", 31: "(\\Seen \\Answered \\Flagged \\Deleted \\Draft)", 30: "(\\Answered \\Flagged \\Deleted \\Draft)", 15: "(\\Seen \\Answered \\Flagged \\Deleted)",
		impl.FlSeen | impl.FlDraft: "(\\Seen \\Draft)", impl.FlFlagged | impl.FlAnswered: "(\\Answered \\Flagged)", impl.FlDeleted | impl.FlFlagged: "(\\Flagged \\Deleted)",
	} {
		if text, code := checkFlagsText(t, flags); text != want || code != impl.OK {
			t.Errorf("FlagsText(%d) = %q, %d, not %q", flags, text, code, want)
		}
	}
	for flags := range 32 {
		if _, code := checkFlagsText(t, flags); code != impl.OK {
			t.Errorf("FlagsText(%d) has the code %d", flags, code)
		}
	}
	for _, flags := range []int{-1, -2, -31, -32, 32, 33, 63, 64, 256, 1 << 32, math.MinInt, math.MaxInt} {
		if text, code := checkFlagsText(t, flags); text != "" || code != impl.ErrRange {
			t.Errorf("FlagsText(%d) = %q, %d", flags, text, code)
		}
	}
}

// sizesOf is a text with each choice of great and small letters.
func sizesOf(text string, use func(string)) {
	great, small := greatLetters.Replace(text), smallLetters.Replace(text)
	for choice := range 1 << len(text) {
		x := []byte(great)
		for i := range x {
			if choice>>i&1 == 1 {
				x[i] = small[i]
			}
		}
		use(string(x))
	}
}

func TestFlagsInLettersOfEitherSize(t *testing.T) {
	for place, name := range allFlagNames {
		sizesOf(name, func(x string) {
			checkFlagsSay(t, "("+x+")", 1<<place, impl.OK)
		})
		checkFlagsSay(t, "("+name+" "+strings.ToUpper(name)+" "+strings.ToLower(name)+")", 1<<place, impl.OK)
	}
}

func TestFlagsInAnyOrder(t *testing.T) {
	source := rand.New(rand.NewSource(14))
	for flags := range 32 {
		for range 60 {
			var names []string
			for place, name := range allFlagNames {
				if flags>>place&1 == 1 {
					for range 1 + source.Intn(3) {
						names = append(names, oneOf(source, name, strings.ToUpper(name), strings.ToLower(name)))
					}
				}
			}
			source.Shuffle(len(names), func(i, j int) { names[i], names[j] = names[j], names[i] })
			checkFlagsSay(t, "("+strings.Join(names, " ")+")", flags, impl.OK)
		}
	}
	checkFlagsSay(t, "("+strings.Repeat("\\Draft ", 1000)+"\\seen)", 17, impl.OK)
}

func TestFlagsWithoutBrackets(t *testing.T) {
	for _, text := range []string{
		"", "(", ")", ")(", " ", "\\Seen", "(\\Seen", "\\Seen)", "\\Seen \\Draft", " (\\Seen)", "(\\Seen) ", "(\\Seen)\r\n", "\n()", "[\\Seen]", "{\\Seen}", "\"\\Seen\"", "x()", "()x", "( ", " )", "(x", "x)", "Seen", "((", "))", "(\\Seen)(", ")\\Seen(", "\x00", "\xff",
		// What is wrong with a name as well is told behind it.
		"(Seen", "none)", "(  ", "  )", "none", "(\\Recent \\Seen",
	} {
		checkFlagsSay(t, text, 0, impl.ErrForm)
	}
}

func TestNoFlags(t *testing.T) {
	for _, name := range []string{
		"", "Seen", "\\", "\\\\Seen", "\\See", "\\Seenn", "\\Seen,", "\\ Seen", "/Seen", "\\Recent", "\\*", "*", "$Forwarded", "x", "(", ")", "()", "(\\Seen)", "\\Seen\t", "\t\\Seen", "\\Seen\r\n", "\\Seen\x00", "\\Unseen", "\\S\u0435en", "\\\u017feen", "\\\u017fEEN", "\\Fla\u011fged", "\\Seen\\Draft", "\\Seen\\Seen", "\\Answere", "\\Draft1", "\\Deleted\u00a0", "\\Seen\xff", "\xff", "\\seen(", ")\\seen", "1", "17", "\n", "seen",
	} {
		for _, text := range []string{"(" + name + " )", "( " + name + ")", "(\\Seen " + name + ")", "(" + name + " \\Seen)", "(\\Draft " + name + " \\Flagged)", "(" + name + " " + name + ")"} {
			checkFlagsSay(t, text, 0, impl.ErrFlag)
		}
		if name != "" {
			checkFlagsSay(t, "("+name+")", 0, impl.ErrFlag)
		}
	}
	for _, text := range []string{"( )", "(  )", "(\\Seen )", "( \\Seen)", "(\\Seen  \\Draft)", "( \\Seen \\Draft )", "(\\Seen \\Draft )", "(())", "()()", "(()", "())", "(\\Seen)(\\Draft)", "(\\Seen\t\\Draft)", "(\\Seen\r\n\\Draft)", "(\\Seen\n)", "(\n)"} {
		checkFlagsSay(t, text, 0, impl.ErrFlag)
	}
	for n := range 7 {
		signsOf("() \\aS", n, func(text string) { checkFlags(t, text) })
	}
	for _, text := range []string{"()", "(\\Seen)", "(\\SEEN \\draft)", "(\\Answered \\Flagged \\Deleted)"} {
		changed(text, func(text string) { checkFlags(t, text) })
	}
	for c := range 256 {
		one := string([]byte{byte(c)})
		for _, text := range []string{one, "(" + one + ")", "(\\Seen" + one + ")", "(" + one + "\\Seen)", "(\\Seen" + one + "\\Draft)", one + "()", "()" + one, one + "\\Seen)", "(\\Seen" + one, "(" + one + "Seen)", "(\\" + one + "een)"} {
			checkFlags(t, text)
		}
	}
}

func TestFlagsOfMaxText(t *testing.T) {
	// Names of flags, of 65532 bytes with a blank behind each.
	many := strings.Repeat("\\Seen ", 10922)
	for text, want := range map[string]int{
		"(" + many[:65526] + "\\Seen)":            1,
		"(" + many[:65520] + "\\Flagged)":         5,
		"(" + many[:65520] + "\\Answered)":        3,
		"(" + many[:65514] + "\\Draft \\Flagged)": 21,
		"(" + many[:65526] + "\\Draft)":           17,
		"(" + many[:65525] + ")":                  1,
		"(" + many[:65519] + ")":                  1,
	} {
		checkFlagsSay(t, text, want, impl.OK)
	}
	// Just MaxText bytes, and one more.
	whole := "(" + strings.Repeat("\\Draft ", 3) + many[:6*10918] + "\\SEEN)"
	if len(whole) != impl.MaxText {
		t.Fatal("these are", len(whole))
	}
	checkFlagsSay(t, whole, 17, impl.OK)
	for _, text := range []string{fullText, whole[1:] + " ", " " + whole[:impl.MaxText-1]} {
		checkFlagsSay(t, text, 0, impl.ErrForm)
	}
	for _, text := range []string{"(" + fullText[:impl.MaxText-2] + ")", "(" + strings.Repeat(" ", impl.MaxText-2) + ")", whole[:impl.MaxText-2] + "x)"} {
		checkFlagsSay(t, text, 0, impl.ErrFlag)
	}
	for _, text := range []string{longText, endlessText, whole + " ", whole[:impl.MaxText-1] + " )", "(" + many + "\\Seen \\Seen)", "(" + fullText + ")", "(" + fullText, fullText + ")", "(" + strings.Repeat(" ", impl.MaxText) + ")"} {
		checkFlagsSay(t, text, 0, impl.ErrLong)
	}
}
