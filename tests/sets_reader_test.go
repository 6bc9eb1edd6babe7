package tests

import (
	"fmt"
	"math/big"
	"math/rand"
	"regexp"
	"slices"
	"strings"
	"testing"

	"loop.example/g00268/impl"
)

// Chapter 12 once more, by patterns and by whole numbers without bounds: what is asked of sets, flags and searches is held against it.
var (
	setPattern   = regexp.MustCompile(`^(?:\*|[1-9][0-9]*)(?::(?:\*|[1-9][0-9]*))?(?:,(?:\*|[1-9][0-9]*)(?::(?:\*|[1-9][0-9]*))?)*$`)
	flagsPattern = regexp.MustCompile(`(?s)^\((.*)\)$`)
	greatLetters = strings.NewReplacer("a", "A", "b", "B", "c", "C", "d", "D", "e", "E", "f", "F", "g", "G", "h", "H", "i", "I", "j", "J", "k", "K", "l", "L", "m", "M", "n", "N", "o", "O", "p", "P", "q", "Q", "r", "R", "s", "S", "t", "T", "u", "U", "v", "V", "w", "W", "x", "X", "y", "Y", "z", "Z")
	topNumber    = big.NewInt(4294967295)
	allFlagNames = []string{"\\Seen", "\\Answered", "\\Flagged", "\\Deleted", "\\Draft"}
	loneKinds    = []string{"ALL", "SEEN", "UNSEEN", "ANSWERED", "FLAGGED", "DELETED", "UNDELETED", "DRAFT"}
	wordKinds    = []string{"SUBJECT", "FROM", "TEXT"}
)

// setOf is ReadSet once more.
func setOf(text string) ([]impl.Range, int) {
	if len(text) > 65536 {
		return nil, impl.ErrLong
	}
	if !setPattern.MatchString(text) || strings.Count(text, ",") > 49 {
		return nil, impl.ErrForm
	}
	var list []impl.Range
	for _, piece := range strings.Split(text, ",") {
		var ends []int
		for _, end := range strings.Split(piece, ":") {
			n, numbered := new(big.Int).SetString(end, 10)
			switch {
			case !numbered:
				n = new(big.Int)
			case n.Cmp(topNumber) > 0:
				return nil, impl.ErrForm
			}
			ends = append(ends, int(n.Int64()))
		}
		list = append(list, impl.Range{From: ends[0], To: ends[len(ends)-1]})
	}
	return list, impl.OK
}

func rightSet(list []impl.Range) bool {
	wrong := func(r impl.Range) bool {
		return slices.Min([]int{r.From, r.To}) < 0 || slices.Max([]int{r.From, r.To}) > 4294967295
	}
	return len(list) >= 1 && len(list) <= 50 && !slices.ContainsFunc(list, wrong)
}

// setText is SetText once more.
func setText(list []impl.Range) (string, int) {
	switch {
	case len(list) > 4096:
		return "", impl.ErrLong
	case !rightSet(list):
		return "", impl.ErrBad
	}
	var pieces []string
	for _, r := range list {
		// An end of 0 is the one that begins with a nought.
		piece := strings.ReplaceAll(fmt.Sprintf("#%d:#%d", r.From, r.To), "#0", "*")
		if r.From == r.To {
			piece, _, _ = strings.Cut(piece, ":")
		}
		pieces = append(pieces, strings.ReplaceAll(piece, "#", ""))
	}
	return strings.Join(pieces, ","), impl.OK
}

// between is whether n is in a set, a star being the top.
func between(list []impl.Range, n, top int) bool {
	for _, r := range list {
		ends := []int{r.From, r.To}
		for i := range ends {
			if ends[i] == 0 {
				ends[i] = top
			}
		}
		slices.Sort(ends)
		if slices.IsSorted([]int{ends[0], n, ends[1]}) {
			return true
		}
	}
	return false
}

func rightNumbers(n int, tops ...int) bool {
	return n >= 1 && n <= 4294967295 && slices.Min(tops) >= 0 && slices.Max(tops) <= 4294967295
}

// setHas is SetHas once more.
func setHas(list []impl.Range, n, top int) (bool, int) {
	switch {
	case len(list) > 4096:
		return false, impl.ErrLong
	case !rightSet(list):
		return false, impl.ErrBad
	case !rightNumbers(n, top):
		return false, impl.ErrRange
	}
	return between(list, n, top), impl.OK
}

// flagsText is FlagsText once more.
func flagsText(flags int) (string, int) {
	if flags < 0 || flags > 31 {
		return "", impl.ErrRange
	}
	var names []string
	for place, digit := range slices.Backward([]byte(fmt.Sprintf("%05b", flags))) {
		if digit == '1' {
			names = append(names, allFlagNames[4-place])
		}
	}
	return "(" + strings.Join(names, " ") + ")", impl.OK
}

// flagsOf is ReadFlags once more.
func flagsOf(text string) (int, int) {
	if len(text) > 65536 {
		return 0, impl.ErrLong
	}
	parts := flagsPattern.FindStringSubmatch(text)
	if parts == nil {
		return 0, impl.ErrForm
	}
	if parts[1] == "" {
		return 0, impl.OK
	}
	named := map[int]bool{}
	for _, name := range strings.Split(smallLetters.Replace(parts[1]), " ") {
		named[slices.IndexFunc(allFlagNames, func(x string) bool { return smallLetters.Replace(x) == name })] = true
	}
	if named[-1] {
		return 0, impl.ErrFlag
	}
	flags := 0
	for place := range named {
		flags += []int{1, 2, 4, 8, 16}[place]
	}
	return flags, impl.OK
}

// keysWithin is the keys that words are, and whether they are keys: a word that turns is done to the first of those behind it.
func keysWithin(words []string) ([]impl.SearchKey, bool) {
	if len(words) == 0 {
		return nil, true
	}
	name := greatLetters.Replace(words[0])
	key, size := impl.SearchKey{Kind: name}, 1
	switch {
	case name == "NOT":
		keys, ok := keysWithin(words[1:])
		if !ok || len(keys) == 0 {
			return nil, false
		}
		keys[0].Not = !keys[0].Not
		return keys, true
	case slices.Contains(wordKinds, name) || name == "UID":
		size = 2
	case !slices.Contains(loneKinds, name):
		key.Kind = "SET"
	}
	if len(words) < size {
		return nil, false
	}
	if size == 2 && name != "UID" {
		key.Text = words[1]
	}
	if key.Kind == "UID" || key.Kind == "SET" {
		set, code := setOf(words[size-1])
		if code != impl.OK {
			return nil, false
		}
		key.Set = set
	}
	keys, ok := keysWithin(words[size:])
	return append([]impl.SearchKey{key}, keys...), ok
}

// searchOf is ReadSearch once more.
func searchOf(words []string) ([]impl.SearchKey, int) {
	if len(words) > 4096 {
		return nil, impl.ErrLong
	}
	keys, ok := keysWithin(words)
	if !ok || len(keys) < 1 || len(keys) > 20 {
		return nil, impl.ErrForm
	}
	return keys, impl.OK
}

// wordsOfKey is words of which a right key is read.
func wordsOfKey(k impl.SearchKey) []string {
	words := []string{k.Kind}
	switch {
	case slices.Contains(wordKinds, k.Kind):
		words = append(words, k.Text)
	case k.Kind == "UID" || k.Kind == "SET":
		text, _ := setText(k.Set)
		words = append(words, text)
	}
	if k.Kind == "SET" {
		words = words[1:]
	}
	if k.Not {
		words = append([]string{"NOT"}, words...)
	}
	return words
}

func rightKey(k impl.SearchKey) bool {
	switch {
	case slices.Contains(loneKinds, k.Kind):
		return k.Text == "" && len(k.Set) == 0
	case slices.Contains(wordKinds, k.Kind):
		return len(k.Set) == 0
	}
	return (k.Kind == "UID" || k.Kind == "SET") && k.Text == "" && rightSet(k.Set)
}

// saidBy is what a field of a text says, empty without one.
func saidBy(text, name string) string {
	m, _ := mailOf(text)
	value, _ := fieldOf(m, name)
	return decoded(value)
}

// met is whether a mail meets a right key.
func met(k impl.SearchKey, m impl.Stored, seq, topSeq, topUid int) bool {
	if k.Not {
		k.Not = false
		return !met(k, m, seq, topSeq, topUid)
	}
	has := func(text string) bool {
		return strings.Contains(smallLetters.Replace(text), smallLetters.Replace(k.Text))
	}
	flag := func(place int) bool { return m.Flags>>place&1 == 1 }
	return map[string]func() bool{
		"ALL":       func() bool { return true },
		"SEEN":      func() bool { return flag(0) },
		"UNSEEN":    func() bool { return !flag(0) },
		"ANSWERED":  func() bool { return flag(1) },
		"FLAGGED":   func() bool { return flag(2) },
		"DELETED":   func() bool { return flag(3) },
		"UNDELETED": func() bool { return !flag(3) },
		"DRAFT":     func() bool { return flag(4) },
		"SUBJECT":   func() bool { return has(saidBy(m.Text, "Subject")) },
		"FROM":      func() bool { return has(saidBy(m.Text, "From")) },
		"TEXT":      func() bool { return has(m.Text) },
		"UID":       func() bool { return between(k.Set, m.Uid, topUid) },
		"SET":       func() bool { return between(k.Set, seq, topSeq) },
	}[k.Kind]()
}

// matchOf is MatchSearch once more.
func matchOf(keys []impl.SearchKey, m impl.Stored, seq, topSeq, topUid int) (bool, int) {
	switch {
	case len(keys) > 4096 || len(m.Text) > 65536:
		return false, impl.ErrLong
	case len(keys) > 20 || slices.ContainsFunc(keys, func(k impl.SearchKey) bool { return !rightKey(k) }):
		return false, impl.ErrBad
	case !rightNumbers(seq, topSeq, topUid):
		return false, impl.ErrRange
	}
	all := true
	for _, k := range keys {
		all = all && met(k, m, seq, topSeq, topUid)
	}
	return all, impl.OK
}

// checkSet holds what a set's text says against the other reader; it says the set and the code.
func checkSet(t *testing.T, text string) ([]impl.Range, int) {
	t.Helper()
	want, wantCode := setOf(text)
	list, code := impl.ReadSet(text)
	if !slices.Equal(list, want) || code != wantCode {
		t.Errorf("ReadSet(%q) of %d = %s, %d, not %s, %d", brief(text), len(text), told(list), code, told(want), wantCode)
	}
	if code == impl.OK {
		checkSetText(t, list)
	}
	return list, code
}

func checkNoSet(t *testing.T, text string, wantCode int) {
	t.Helper()
	if _, code := checkSet(t, text); code != wantCode {
		t.Errorf("ReadSet(%q) of %d has the code %d, not %d", brief(text), len(text), code, wantCode)
	}
}

// checkSetText holds the text of ranges against the other writer; a set is read back from it.
func checkSetText(t *testing.T, list []impl.Range) (string, int) {
	t.Helper()
	want, wantCode := setText(list)
	text, code := impl.SetText(list)
	if text != want || code != wantCode {
		t.Errorf("SetText(%s) = %q, %d, not %q, %d", told(list), brief(text), code, brief(want), wantCode)
	}
	if code == impl.OK {
		if back, code := impl.ReadSet(text); !slices.Equal(back, list) || code != impl.OK {
			t.Errorf("the set %s is read back from %q as %s, %d", told(list), brief(text), told(back), code)
		}
	}
	return text, code
}

// checkHas holds whether a number is in a set against the other reader; it says it.
func checkHas(t *testing.T, list []impl.Range, n, top int) (bool, int) {
	t.Helper()
	want, wantCode := setHas(list, n, top)
	has, code := impl.SetHas(list, n, top)
	if has != want || code != wantCode {
		t.Errorf("SetHas(%s, %d, %d) = %v, %d, not %v, %d", told(list), n, top, has, code, want, wantCode)
	}
	return has, code
}

func checkHasCode(t *testing.T, list []impl.Range, n, top, wantCode int) {
	t.Helper()
	if has, code := checkHas(t, list, n, top); has || code != wantCode {
		t.Errorf("SetHas(%s, %d, %d) = %v, %d, not %d", told(list), n, top, has, code, wantCode)
	}
}

// checkWrongSet asks that ranges are no set, whatever is done with them.
func checkWrongSet(t *testing.T, list []impl.Range) {
	t.Helper()
	if text, code := checkSetText(t, list); text != "" || code != impl.ErrBad {
		t.Errorf("SetText(%s) = %q, %d", told(list), brief(text), code)
	}
	checkHasCode(t, list, 1, 1, impl.ErrBad)
	// The numbers are looked at behind the set.
	checkHasCode(t, list, 0, -1, impl.ErrBad)
	for _, kind := range []string{"UID", "SET"} {
		checkMatchCode(t, []impl.SearchKey{{Kind: kind, Set: list}}, impl.Stored{Uid: 1}, 1, 1, 1, impl.ErrBad)
		checkMatchCode(t, []impl.SearchKey{{Kind: kind, Set: list, Not: true}}, impl.Stored{Uid: 1}, 0, -1, -1, impl.ErrBad)
	}
}

// checkFlags holds what a text of flags says against the other reader; it says the flags and the code.
func checkFlags(t *testing.T, text string) (int, int) {
	t.Helper()
	want, wantCode := flagsOf(text)
	flags, code := impl.ReadFlags(text)
	if flags != want || code != wantCode {
		t.Errorf("ReadFlags(%q) of %d = %d, %d, not %d, %d", brief(text), len(text), flags, code, want, wantCode)
	}
	return flags, code
}

func checkFlagsSay(t *testing.T, text string, want, wantCode int) {
	t.Helper()
	if flags, code := checkFlags(t, text); flags != want || code != wantCode {
		t.Errorf("ReadFlags(%q) of %d = %d, %d, not %d, %d", brief(text), len(text), flags, code, want, wantCode)
	}
}

// checkFlagsText holds the text of flags against the other writer; they are read back from it.
func checkFlagsText(t *testing.T, flags int) (string, int) {
	t.Helper()
	want, wantCode := flagsText(flags)
	text, code := impl.FlagsText(flags)
	if text != want || code != wantCode {
		t.Errorf("FlagsText(%d) = %q, %d, not %q, %d", flags, text, code, want, wantCode)
	}
	if code == impl.OK {
		checkFlagsSay(t, text, flags, impl.OK)
	}
	return text, code
}

// briefWords is the first of some words, and of each its beginning.
func briefWords(words []string) []string {
	var list []string
	for _, word := range words[:min(len(words), 8)] {
		list = append(list, brief(word))
	}
	return list
}

// checkSearch holds the keys of words against the other reader; it says them and the code.
func checkSearch(t *testing.T, words ...string) ([]impl.SearchKey, int) {
	t.Helper()
	want, wantCode := searchOf(words)
	keys, code := impl.ReadSearch(words)
	if !sameAnswer(keys, want) || code != wantCode {
		t.Errorf("ReadSearch(%s) of %d = %s, %d, not %s, %d", told(briefWords(words)), len(words), told(keys), code, told(want), wantCode)
	}
	return keys, code
}

func checkKeysRead(t *testing.T, words []string, want ...impl.SearchKey) {
	t.Helper()
	if keys, code := checkSearch(t, words...); !sameAnswer(keys, want) || code != impl.OK {
		t.Errorf("ReadSearch(%s) = %s, %d, not %s", told(briefWords(words)), told(keys), code, told(want))
	}
}

func checkNoSearch(t *testing.T, words ...string) {
	t.Helper()
	if _, code := checkSearch(t, words...); code != impl.ErrForm {
		t.Errorf("ReadSearch(%s) of %d has the code %d", told(briefWords(words)), len(words), code)
	}
}

// checkMatch holds whether a mail meets keys against the other reader; it says it, and the code.
func checkMatch(t *testing.T, keys []impl.SearchKey, m impl.Stored, seq, topSeq, topUid int) (bool, int) {
	t.Helper()
	want, wantCode := matchOf(keys, m, seq, topSeq, topUid)
	meets, code := impl.MatchSearch(keys, m, seq, topSeq, topUid)
	if meets != want || code != wantCode {
		t.Errorf("MatchSearch(%s, %s, %d, %d, %d) = %v, %d, not %v, %d", told(keys), told(m), seq, topSeq, topUid, meets, code, want, wantCode)
	}
	return meets, code
}

func checkMatchCode(t *testing.T, keys []impl.SearchKey, m impl.Stored, seq, topSeq, topUid, wantCode int) {
	t.Helper()
	if meets, code := checkMatch(t, keys, m, seq, topSeq, topUid); meets || code != wantCode {
		t.Errorf("MatchSearch(%s, %s, %d, %d, %d) = %v, %d, not %d", told(keys), told(m), seq, topSeq, topUid, meets, code, wantCode)
	}
}

// checkMeets asks for one key, and for the same one turned.
func checkMeets(t *testing.T, k impl.SearchKey, m impl.Stored, want bool) {
	t.Helper()
	for _, k.Not = range []bool{false, true} {
		if meets, code := checkMatch(t, []impl.SearchKey{k}, m, 2, 3, 5); meets != (want != k.Not) || code != impl.OK {
			t.Errorf("MatchSearch(%s, %s) = %v, %d", told(k), told(m), meets, code)
		}
	}
}

// checkMeetsAll asks that a mail meets right keys just if it meets each of them alone.
func checkMeetsAll(t *testing.T, keys []impl.SearchKey, m impl.Stored, seq, topSeq, topUid int) bool {
	t.Helper()
	all := true
	for _, k := range keys {
		one, code := checkMatch(t, []impl.SearchKey{k}, m, seq, topSeq, topUid)
		k.Not = !k.Not
		turned, turnedCode := checkMatch(t, []impl.SearchKey{k}, m, seq, topSeq, topUid)
		if turned == one || code != impl.OK || turnedCode != impl.OK {
			t.Errorf("MatchSearch(%s, %s, %d, %d, %d) = %v, %d, and turned %v, %d", told(k), told(m), seq, topSeq, topUid, one, code, turned, turnedCode)
		}
		all = all && one
	}
	if meets, code := checkMatch(t, keys, m, seq, topSeq, topUid); meets != all || code != impl.OK {
		t.Errorf("MatchSearch(%s, %s, %d, %d, %d) = %v, %d, but of each alone %v", told(keys), told(m), seq, topSeq, topUid, meets, code, all)
	}
	return all
}

// madeEnd is an end of a range, most often a small one.
func madeEnd(source *rand.Rand) int {
	switch source.Intn(8) {
	case 0:
		return 0
	case 1:
		return source.Intn(4294967296)
	case 2:
		return 4294967295 - source.Intn(3)
	}
	return source.Intn(12)
}

func madeSet(source *rand.Rand, n int) []impl.Range {
	var list []impl.Range
	for range n {
		r := impl.Range{From: madeEnd(source), To: madeEnd(source)}
		if source.Intn(3) == 0 {
			r.To = r.From
		}
		list = append(list, r)
	}
	return list
}

// madeKey is a right key of any kind.
func madeKey(source *rand.Rand) impl.SearchKey {
	k := impl.SearchKey{Not: source.Intn(2) == 0}
	switch source.Intn(4) {
	case 0, 1:
		k.Kind = oneOf(source, loneKinds...)
	case 2:
		k.Kind = oneOf(source, wordKinds...)
		k.Text = oneOf(source, "", "a", "B", "b C", "\u00e4", "\u00c4", "X", ":", "\r\n", "=?UTF-8", "PLAIN", "subject", "NOT", "\xff", "i", "1:2", fullText)
	case 3:
		k.Kind = oneOf(source, "UID", "SET")
		k.Set = madeSet(source, 1+source.Intn(3))
	}
	return k
}
