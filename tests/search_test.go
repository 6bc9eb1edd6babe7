package tests

import (
	"math"
	"math/rand"
	"slices"
	"strconv"
	"strings"
	"testing"

	"loop.example/g00268/impl"
)

func keyOf(kind string) impl.SearchKey { return impl.SearchKey{Kind: kind} }

func wordKey(kind, word string) impl.SearchKey { return impl.SearchKey{Kind: kind, Text: word} }

func setKey(kind string, ends ...int) impl.SearchKey {
	return impl.SearchKey{Kind: kind, Set: rangesOf(ends...)}
}

func turned(k impl.SearchKey) impl.SearchKey {
	k.Not = !k.Not
	return k
}

// someKeys is a right key of every kind.
func someKeys() []impl.SearchKey {
	var list []impl.SearchKey
	for _, kind := range loneKinds {
		list = append(list, keyOf(kind))
	}
	for _, kind := range wordKinds {
		list = append(list, wordKey(kind, "A word"), wordKey(kind, ""))
	}
	return append(list, setKey("UID", 2, 0), setKey("UID", 1, 1, 0, 7, 5, 3), setKey("SET", 0, 0), setKey("SET", 1, 3, 4294967295, 4294967295))
}

func TestSearchKeys(t *testing.T) {
	for _, kind := range loneKinds {
		checkKeysRead(t, []string{kind}, keyOf(kind))
		checkKeysRead(t, []string{"NOT", kind}, turned(keyOf(kind)))
	}
	for _, kind := range wordKinds {
		checkKeysRead(t, []string{kind, "Word"}, wordKey(kind, "Word"))
		checkKeysRead(t, []string{"NOT", kind, "Word"}, turned(wordKey(kind, "Word")))
	}
	for text, ends := range map[string][]int{"1": {1, 1}, "*": {0, 0}, "2:*": {2, 0}, "1,5:3,*:7": {1, 1, 5, 3, 0, 7}, "4294967295": {4294967295, 4294967295}} {
		checkKeysRead(t, []string{"UID", text}, setKey("UID", ends...))
		checkKeysRead(t, []string{text}, setKey("SET", ends...))
		checkKeysRead(t, []string{"NOT", "UID", text}, turned(setKey("UID", ends...)))
		checkKeysRead(t, []string{"NOT", text}, turned(setKey("SET", ends...)))
	}
	checkKeysRead(t, []string{"not", "Seen", "subject", "Word", "uid", "2:*", "1"}, turned(keyOf("SEEN")), wordKey("SUBJECT", "Word"), setKey("UID", 2, 0), setKey("SET", 1, 1))
	checkKeysRead(t, []string{"1", "2", "uid", "3", "4"}, setKey("SET", 1, 1), setKey("SET", 2, 2), setKey("UID", 3, 3), setKey("SET", 4, 4))
	checkKeysRead(t, []string{"SEEN", "SEEN", "NOT", "SEEN"}, keyOf("SEEN"), keyOf("SEEN"), turned(keyOf("SEEN")))
	checkKeysRead(t, []string{"ALL", "UNSEEN", "UNDELETED", "DRAFT"}, keyOf("ALL"), keyOf("UNSEEN"), keyOf("UNDELETED"), keyOf("DRAFT"))
}

func TestKindsInLettersOfEitherSize(t *testing.T) {
	for _, kind := range loneKinds {
		sizesOf(kind, func(x string) { checkKeysRead(t, []string{x}, keyOf(kind)) })
	}
	for _, kind := range wordKinds {
		sizesOf(kind, func(x string) { checkKeysRead(t, []string{x, x}, wordKey(kind, x)) })
	}
	sizesOf("UID", func(x string) { checkKeysRead(t, []string{x, "1"}, setKey("UID", 1, 1)) })
	sizesOf("NOT", func(x string) {
		checkKeysRead(t, []string{x, "All", x, "uid", "1"}, turned(keyOf("ALL")), turned(setKey("UID", 1, 1)))
	})
}

// Each word that turns does so to the key behind it, and what is turned twice is as it was.
func TestTurnedKeys(t *testing.T) {
	for n := range 12 {
		for _, k := range someKeys() {
			words := wordsOfKey(k)
			k.Not = n%2 == 1
			nots := slices.Repeat([]string{"NOT"}, n)
			checkKeysRead(t, append(nots, words...), k)
			checkKeysRead(t, slices.Concat([]string{"seen", "not", "1"}, nots, words, []string{"not", "not", "all"}), keyOf("SEEN"), turned(setKey("SET", 1, 1)), k, keyOf("ALL"))
			// At the end none is left that could be turned.
			if n > 0 {
				checkNoSearch(t, nots...)
				checkNoSearch(t, append(words, nots...)...)
				checkNoSearch(t, slices.Concat(nots, words, nots)...)
			}
		}
	}
	for _, n := range []int{100, 1001, impl.MaxList - 2, impl.MaxList - 1} {
		nots := slices.Repeat([]string{"not"}, n)
		k := keyOf("DRAFT")
		k.Not = n%2 == 1
		checkKeysRead(t, append(nots, "draft"), k)
		checkNoSearch(t, nots...)
		checkNoSearch(t, append(nots, "not")...)
	}
}

// A word behind SUBJECT, FROM or TEXT is no key, whatever it is.
func TestWordsOfSearches(t *testing.T) {
	for _, kind := range wordKinds {
		for _, word := range []string{"", " ", "a", "NOT", "not", "ALL", "seen", "UID", "SUBJECT", "1:2", "*", "two words", "\"quoted\"", "(a b)", "\r\n", "\x00", "\xff\xfe", "\u00c4\u00e4", "Either Size", strings.Repeat("w", 1000), fullText, longText, endlessText} {
			checkKeysRead(t, []string{kind, word}, wordKey(kind, word))
			checkKeysRead(t, []string{"not", kind, word, "1"}, turned(wordKey(kind, word)), setKey("SET", 1, 1))
			checkKeysRead(t, []string{"NOT", "not", kind, word, kind, word}, wordKey(kind, word), wordKey(kind, word))
		}
	}
}

func TestWordsThatLack(t *testing.T) {
	checkNoSearch(t)
	for _, kind := range append([]string{"NOT", "UID"}, wordKinds...) {
		checkNoSearch(t, kind)
		checkNoSearch(t, strings.ToLower(kind))
		checkNoSearch(t, "ALL", kind)
		checkNoSearch(t, "NOT", kind)
		checkNoSearch(t, "not", "not", kind)
		checkNoSearch(t, "SUBJECT", kind, kind)
		checkNoSearch(t, "UID", "1", kind)
		checkNoSearch(t, "1", kind)
		checkNoSearch(t, append(slices.Repeat([]string{"ALL"}, 19), kind)...)
		checkNoSearch(t, append(slices.Repeat([]string{"ALL"}, 20), kind)...)
	}
}

func TestNoSearches(t *testing.T) {
	for _, word := range []string{
		"", " ", "none", "SET", "set", "Kind", "NEW", "OLD", "RECENT", "UNANSWERED", "UNFLAGGED", "UNDRAFT", "UNALL", "UNNOT", "OR", "BODY", "TO", "CC", "KEYWORD", "SINCE", "SEEN ", " SEEN", "\\Seen", "(SEEN)", "SEENN", "SEE", "UN", "ALLL", "AL", "\u017feen", "\u017fEEN", "UN\u017fEEN", "\xff", "S\x00EEN", "SEEN\x00", "NOT ", "NOTSEEN", "NOT SEEN", "ALL SEEN",
		"0", "01", "-1", "1:", ":1", "1,", "1:2:3", "4294967296", "1 2", "a1", "1a", "**", strings.Repeat("1,", 50) + "1", strings.Repeat("1", 100), fullText, longText, endlessText, strings.Repeat("1,", impl.MaxText) + "1", strings.Repeat("1", impl.MaxText+1),
	} {
		checkNoSearch(t, word)
		checkNoSearch(t, "UID", word)
		checkNoSearch(t, "NOT", word)
		checkNoSearch(t, "NOT", "UID", word)
		checkNoSearch(t, "ALL", word)
		checkNoSearch(t, word, "ALL")
		checkNoSearch(t, "UID", word, "1")
		checkNoSearch(t, "SUBJECT", "a", word)
		checkNoSearch(t, word, "SUBJECT", "a")
	}
	for _, kind := range append(append([]string{"NOT", "UID"}, wordKinds...), loneKinds...) {
		checkNoSearch(t, "UID", kind)
		checkNoSearch(t, "UID", kind, "1")
	}
	// Of a set the kind is told, but it is no name of one.
	checkNoSearch(t, "SET", "1")
	checkNoSearch(t, "set", "1:2")
	checkNoSearch(t, "UID", "SET", "1")
}

func TestManyKeys(t *testing.T) {
	for _, k := range someKeys() {
		for _, k.Not = range []bool{false, true} {
			words := wordsOfKey(k)
			for n := 1; n <= 24; n++ {
				all := slices.Repeat(words, n)
				if n <= 20 {
					checkKeysRead(t, all, slices.Repeat([]impl.SearchKey{k}, n)...)
				} else {
					checkNoSearch(t, all...)
				}
			}
		}
	}
	// Words that turn are no keys.
	words := slices.Repeat([]string{"not", "NOT", "Not", "subject", "not"}, 20)
	checkKeysRead(t, words, slices.Repeat([]impl.SearchKey{turned(wordKey("SUBJECT", "not"))}, 20)...)
	checkNoSearch(t, append(words, "all")...)
	checkNoSearch(t, append([]string{"*"}, words...)...)
}

func TestLongSearches(t *testing.T) {
	for _, word := range []string{"ALL", "NOT", "1", "SUBJECT", "none", "", endlessText} {
		for _, n := range []int{21, 41, impl.MaxList - 1, impl.MaxList} {
			checkNoSearch(t, slices.Repeat([]string{word}, n)...)
		}
		for _, n := range []int{impl.MaxList + 1, 3 * impl.MaxList} {
			if keys, code := checkSearch(t, slices.Repeat([]string{word}, n)...); len(keys) != 0 || code != impl.ErrLong {
				t.Errorf("ReadSearch of %d times %q: %d keys, %d", n, brief(word), len(keys), code)
			}
		}
	}
	// As many words as may be, of one right key.
	nots := slices.Repeat([]string{"NOT"}, impl.MaxList-2)
	checkKeysRead(t, append(nots, "UID", "*"), setKey("UID", 0, 0))
	if _, code := checkSearch(t, append(nots, "NOT", "UID", "*")...); code != impl.ErrLong {
		t.Error("ReadSearch of MaxList + 1 words has the code", code)
	}
}

func TestMadeSearches(t *testing.T) {
	source := rand.New(rand.NewSource(15))
	for range 3000 {
		var keys []impl.SearchKey
		var words []string
		for range 1 + source.Intn(20) {
			k := madeKey(source)
			keys = append(keys, k)
			words = append(words, slices.Repeat([]string{"not"}, 2*source.Intn(2))...)
			words = append(words, wordsOfKey(k)...)
		}
		checkKeysRead(t, words, keys...)
	}
	right := 0
	for range 20000 {
		var words []string
		for range source.Intn(7) {
			words = append(words, oneOf(source, "not", "NOT", "all", "Seen", "unseen", "SUBJECT", "from", "uid", "Uid", "1", "2:*", "1,3", "*", "0", "a", ""))
		}
		if _, code := checkSearch(t, words...); code == impl.OK {
			right++
		}
	}
	if right < 1000 {
		t.Error("made words that are searches:", right)
	}
}

func TestMailsMeetFlags(t *testing.T) {
	for flags := range 32 {
		m := impl.Stored{Uid: 5, Flags: flags}
		for kind, want := range map[string]bool{
			"ALL": true, "SEEN": flags%2 == 1, "UNSEEN": flags%2 == 0, "ANSWERED": flags/2%2 == 1, "FLAGGED": flags/4%2 == 1, "DELETED": flags/8%2 == 1, "UNDELETED": flags/8%2 == 0, "DRAFT": flags/16 == 1,
		} {
			checkMeets(t, keyOf(kind), m, want)
		}
		for _, one := range loneKinds {
			for _, other := range loneKinds {
				checkMeetsAll(t, []impl.SearchKey{keyOf(one), turned(keyOf(other))}, m, 1, 1, 5)
			}
		}
	}
	// A mail's flags are no argument of their own: bits of no flag say nothing.
	for _, flags := range []int{32, 33, 64, 1 << 40, math.MaxInt - 31, -32} {
		for _, kind := range loneKinds {
			checkMeets(t, keyOf(kind), impl.Stored{Flags: flags}, met(keyOf(kind), impl.Stored{Flags: flags % 32}, 1, 1, 1))
		}
	}
}

// mailOfFields is a mail of these fields, and a body.
func mailOfFields(fields ...string) string {
	text := ""
	for _, field := range fields {
		text += field + "\r\n"
	}
	return text + "\r\nA Body\r\n"
}

func TestMailsMeetWords(t *testing.T) {
	e := impl.Entry{Id: "i", Title: "A W\u00f6rd", Author: "Who <w@x>", Content: "Body text\nand \u00e4"}
	rendered, _ := impl.RenderEntry(e, "news")
	m := impl.Stored{Uid: 5, Text: rendered}
	for _, word := range []string{"", "a", "A", "w\u00f6rd", "W\u00f6RD", "a w\u00f6", "\u00f6", "\xc3", "\xb6", " ", "rD", "A W\u00f6rd"} {
		checkMeets(t, wordKey("SUBJECT", word), m, true)
	}
	for _, word := range []string{"body", "who", "\u00d6", "a  w", "=?utf-8", "A W\u00f6rd ", "subject", ":", "\r\n", "QSBXw7ZyZA==", "i", fullText, longText, endlessText} {
		checkMeets(t, wordKey("SUBJECT", word), m, false)
	}
	for _, word := range []string{"", "who", "WHO <W@X>", "<", "@", "o <w"} {
		checkMeets(t, wordKey("FROM", word), m, true)
	}
	for _, word := range []string{"a w\u00f6rd", "from", "whom", "news", "1970"} {
		checkMeets(t, wordKey("FROM", word), m, false)
	}
	// The whole text as it stands: coded, with the names of fields and the ends of lines.
	for _, word := range []string{"", "body TEXT", "=c3=a4", "SUBJECT:", "=?UTF-8?b?qsbxw7zyza==?=", "who", "\r\n\r\n", "text\r\nand", "@NEWS>", "x-id: I", rendered, strings.ToUpper(rendered)} {
		checkMeets(t, wordKey("TEXT", word), m, true)
	}
	for _, word := range []string{"w\u00f6rd", "\u00e4", "text\nand", "body  text", rendered + "\n", "\x00", fullText, longText} {
		checkMeets(t, wordKey("TEXT", word), m, false)
	}
}

func TestLettersOfSearches(t *testing.T) {
	for c := range 256 {
		one := string([]byte{byte(c)})
		for other := range 256 {
			word := string([]byte{byte(other)})
			same := c == other || c >= 'A' && c <= 'Z' && other == c+32 || c >= 'a' && c <= 'z' && other == c-32
			checkMeets(t, wordKey("TEXT", word), impl.Stored{Text: one}, same)
		}
		if c > ' ' && c <= '~' {
			text := mailOfFields("From: "+one, "Subject: =?utf-8?B?w6Q=?= "+one)
			for _, word := range []string{one, strings.ToUpper(one), strings.ToLower(one)} {
				checkMeets(t, wordKey("FROM", word), impl.Stored{Text: text}, true)
				checkMeets(t, wordKey("SUBJECT", "\u00e4 "+word), impl.Stored{Text: text}, true)
			}
		}
	}
	// Letters beyond `z` have no other size, and none is another's.
	for _, pair := range [][2]string{{"\u00e4", "\u00c4"}, {"k", "\u212a"}, {"s", "\u017f"}, {"i", "\u0130"}, {"\u03c3", "\u03c2"}, {"ss", "\u00df"}, {"\u00e4", "\x84"}} {
		for i, text := range pair {
			word := pair[1-i]
			checkMeets(t, wordKey("TEXT", word), impl.Stored{Text: text}, false)
			checkMeets(t, wordKey("TEXT", text), impl.Stored{Text: text}, true)
			if impl.ValidText(text) {
				mail := impl.Stored{Text: mailOfFields("From: "+inWord(text), "Subject: "+inWord(text))}
				for _, kind := range []string{"SUBJECT", "FROM"} {
					checkMeets(t, wordKey(kind, word), mail, false)
					checkMeets(t, wordKey(kind, text), mail, true)
				}
			}
		}
	}
}

func TestFieldsOfSearches(t *testing.T) {
	for kind, name := range map[string]string{"SUBJECT": "Subject", "FROM": "From"} {
		for value, said := range map[string]string{
			"": "", "plain": "plain", "Two Words": "Two Words", "a\r\n b": "a b", "a b\r\n c\r\n d": "a b c d",
			"=?utf-8?B?w6Q=?=": "\u00e4", "=?utf-8?B?w6Q=?= =?utf-8?B?w6Q=?=": "\u00e4\u00e4", "=?utf-8?B?w6Q=?=\r\n =?utf-8?B?w6Q=?=": "\u00e4\u00e4", "x =?utf-8?B?w6Q=?= y": "x \u00e4 y", "=?utf-8?B?QSBC?=": "A B",
			// What is no encoded word is what it is.
			"=?utf-8?B?w6Q?=": "=?utf-8?B?w6Q?=", "=?UTF-8?B?w6Q=?=": "=?UTF-8?B?w6Q=?=", "=?utf-8?Q?=C3=A4?=": "=?utf-8?Q?=C3=A4?=", "=?utf-8?B?/w==?=": "=?utf-8?B?/w==?=",
			inWord("a\r\nb"): "a\r\nb", inWord("\x00"): "\x00", lineBytes(200): lineBytes(200), strings.ReplaceAll(wordsOf(1900, 100), " ", "\r\n "): wordsOf(1900, 100),
		} {
			for _, called := range []string{name, strings.ToUpper(name), strings.ToLower(name)} {
				for _, text := range []string{
					mailOfFields(called + ": " + value), mailOfFields("X: y", called+": "+value, "X: z"), mailOfFields(called+": "+value, name+": other second"),
				} {
					m := impl.Stored{Text: text}
					for _, word := range []string{"", said, strings.ToUpper(lettersAlone(said)), strings.ToLower(lettersAlone(said))} {
						checkMeets(t, wordKey(kind, word), m, true)
					}
					for _, word := range []string{said + "x", "x" + said, "second", "Body", name + ":", "\r\n "} {
						checkMeets(t, wordKey(kind, word), m, false)
					}
				}
			}
		}
	}
}

// lettersAlone is the longest beginning of a text that has signs below 128 alone.
func lettersAlone(x string) string {
	at := strings.IndexFunc(x, func(r rune) bool { return r > 127 })
	if at < 0 {
		return x
	}
	return x[:at]
}

// In a field that is not there, and in one of a text that is no mail, is the empty word alone.
func TestFieldsThatAreNotThere(t *testing.T) {
	field := "Subject: word\r\nFrom: word\r\n"
	for _, text := range []string{
		"", "\r\n", "\r\n\r\nword\r\n", "X: word\r\n\r\nword\r\n", mailOfFields("X-Subject: word", "X-From: word", "Subjects: word", "Fro: word", "To: word"), mailOfFields("Subject: ", "From: "), mailOfFields("Subject: ", "From: ", "Subject: word", "From: word"), "\r\n" + field + "\r\n",
		// No mails.
		"word", "word\r\n", field, field + "\n", field + "\r\nword", field + "\r\nword\n", field + "\r\nw\u00f6rd word\r\n", field + "\r\n\x00\r\n", field + "word\r\n\r\n", "word\r\n" + field + "\r\n", field + "X:word\r\n\r\n", field + "X: word \r\n\r\n", field + " \r\n\r\n", strings.ReplaceAll(field, "\r\n", "\n") + "\nword\n", "Subject:word\r\nFrom:word\r\n\r\n", "Subject: w\u00f6rd word\r\nFrom: w\u00f6rd word\r\n\r\n", "Subject:  word\r\nFrom:  word\r\n\r\n", field + strings.Repeat("X: y\r\n", 39) + "\r\n", field + "\r\n" + strings.Repeat("x", 999) + "\r\n", "Subject: " + strings.Repeat("w", 201) + "\r\nFrom: word\r\n\r\n", "Subject: " + wordsOf(2001, 60) + "\r\nFrom: word\r\n\r\n",
		strings.Repeat("\xff", impl.MaxText), fullText,
	} {
		m := impl.Stored{Text: text}
		for _, kind := range []string{"SUBJECT", "FROM"} {
			checkMeets(t, wordKey(kind, ""), m, true)
			for _, word := range []string{"word", "w", "WORD", " ", "x", "a", "\xff"} {
				checkMeets(t, wordKey(kind, word), m, false)
			}
		}
		checkMeets(t, wordKey("TEXT", ""), m, true)
		checkMeets(t, wordKey("TEXT", "WORD"), m, strings.Contains(text, "word"))
		checkMeets(t, wordKey("TEXT", text), m, true)
		for _, k := range someKeys() {
			checkMeetsAll(t, []impl.SearchKey{k, keyOf("ALL")}, m, 1, 1, 1)
		}
	}
	// As many fields as a mail may have.
	m := impl.Stored{Text: field + strings.Repeat("X: y\r\n", 38) + "\r\n"}
	checkMeets(t, wordKey("SUBJECT", "WORD"), m, true)
	checkMeets(t, wordKey("FROM", "WORD"), m, true)
}

// The star of a set of numbers is the last number, that of a set of uids the last uid.
func TestNumbersOfMails(t *testing.T) {
	for _, c := range []struct {
		words                    []string
		uid, seq, topSeq, topUid int
		want                     bool
	}{
		{[]string{"*"}, 5, 2, 3, 5, false}, {[]string{"*"}, 5, 3, 3, 9, true}, {[]string{"uid", "*"}, 5, 2, 3, 5, true}, {[]string{"uid", "*"}, 5, 5, 5, 9, false}, {[]string{"uid", "*"}, 3, 1, 3, 5, false}, {[]string{"*"}, 5, 2, 5, 2, false},
		{[]string{"2"}, 5, 2, 3, 5, true}, {[]string{"5"}, 5, 2, 3, 5, false}, {[]string{"uid", "5"}, 5, 2, 3, 5, true}, {[]string{"uid", "2"}, 5, 2, 3, 5, false}, {[]string{"uid", "1:4"}, 5, 2, 3, 5, false}, {[]string{"not", "uid", "1:4"}, 5, 2, 3, 5, true},
		{[]string{"3:*"}, 5, 2, 2, 9, true}, {[]string{"3:*"}, 5, 1, 2, 9, false}, {[]string{"3:*"}, 5, 1, 1, 9, true}, {[]string{"uid", "7:*"}, 5, 2, 9, 5, true}, {[]string{"uid", "7:*"}, 5, 2, 9, 6, false}, {[]string{"uid", "7:*"}, 7, 2, 9, 6, true}, {[]string{"uid", "*:7"}, 8, 2, 9, 6, false},
		{[]string{"2", "uid", "5"}, 5, 2, 3, 5, true}, {[]string{"5", "uid", "2"}, 5, 2, 3, 5, false}, {[]string{"*", "uid", "*"}, 9, 4, 4, 9, true}, {[]string{"*", "not", "uid", "*"}, 9, 4, 4, 10, true},
		{[]string{"*"}, 5, 1, 0, 5, false}, {[]string{"1:*"}, 5, 1, 0, 5, true}, {[]string{"uid", "*"}, 5, 1, 1, 0, false}, {[]string{"uid", "9:*"}, 5, 1, 1, 0, true},
		{[]string{"4294967295"}, 5, 4294967295, 0, 0, true}, {[]string{"uid", "*"}, 4294967295, 1, 0, 4294967295, true},
	} {
		keys, _ := impl.ReadSearch(c.words)
		if meets, code := checkMatch(t, keys, impl.Stored{Uid: c.uid}, c.seq, c.topSeq, c.topUid); meets != c.want || code != impl.OK {
			t.Errorf("MatchSearch of %v, %v: %v, %d", c.words, c, meets, code)
		}
	}
	for uid := range 7 {
		for seq := 1; seq < 5; seq++ {
			for top := range 7 {
				for _, ends := range [][]int{{0, 0}, {1, 0}, {3, 0}, {0, 2}, {2, 4}, {4, 2}, {3, 3}, {1, 1, 5, 0}} {
					checkMeetsAll(t, []impl.SearchKey{setKey("UID", ends...), setKey("SET", ends...)}, impl.Stored{Uid: uid}, seq, top%5, top)
				}
			}
		}
	}
	// A mail's uid is no argument of its own: what no set has is in none.
	for _, uid := range []int{-1, math.MinInt, 4294967296, math.MaxInt} {
		for _, top := range []int{0, 1, 4294967295} {
			for _, ends := range [][]int{{0, 0}, {1, 0}, {1, 4294967295}} {
				if meets, code := checkMatch(t, []impl.SearchKey{setKey("UID", ends...)}, impl.Stored{Uid: uid}, 1, 1, top); meets || code != impl.OK {
					t.Errorf("MatchSearch of the uid %d: %v, %d", uid, meets, code)
				}
			}
		}
	}
}

// Without a key there is none that a mail does not meet.
func TestNoKeys(t *testing.T) {
	for _, keys := range [][]impl.SearchKey{nil, {}} {
		for _, m := range []impl.Stored{{}, {Uid: 1, Flags: 31, Text: "\xff"}, {Uid: -1, Flags: -1, Text: fullText}} {
			if meets, code := checkMatch(t, keys, m, 1, 0, 0); !meets || code != impl.OK {
				t.Errorf("MatchSearch without a key: %v, %d", meets, code)
			}
			checkMatchCode(t, keys, m, 0, 0, 0, impl.ErrRange)
			checkMatchCode(t, keys, m, 1, -1, 0, impl.ErrRange)
			checkMatchCode(t, keys, m, 1, 0, -1, impl.ErrRange)
		}
		checkMatchCode(t, keys, impl.Stored{Text: longText}, 1, 1, 1, impl.ErrLong)
	}
}

// someMailTexts is texts of mails, and others.
func someMailTexts() []string {
	list := []string{"", "x", "\r\n", "B c\r\n", "\u00e4\xff", mailOfFields("From: a B", "Subject: b c =?utf-8?B?w6Q=?="), mailOfFields("subject: X\r\n i", "FROM: "), mailOfFields("X: y"), "From: a\r\nSubject: b\r\n", "From: a\nSubject: b\n\n", mailOfBytes(3000)}
	for i := range 3 {
		text, _ := impl.RenderEntry(impl.Entry{Id: strconv.Itoa(i), Title: "b C " + strings.Repeat("\u00e4", i), Author: strings.Repeat("A ", i) + "i", Content: "plain X\n"}, "news")
		list = append(list, text)
	}
	return list
}

func TestMailsMeetEachKey(t *testing.T) {
	for _, text := range someMailTexts() {
		for flags := range 32 {
			m := impl.Stored{Uid: 1 + flags%9, Flags: flags, Text: text}
			keys := someKeys()
			checkMeetsAll(t, keys[:min(len(keys), 20)], m, 1+flags%3, 3, 9)
			for i, k := range keys {
				checkMeetsAll(t, []impl.SearchKey{k, turned(keys[(i+flags)%len(keys)])}, m, 1+flags%3, flags%4, 9)
			}
		}
	}
	source := rand.New(rand.NewSource(16))
	counts := map[bool]int{}
	for range 4000 {
		var keys []impl.SearchKey
		for range source.Intn(5) {
			keys = append(keys, madeKey(source))
		}
		text := oneOf(source, someMailTexts()...)
		if source.Intn(3) == 0 {
			text = madeMail(source)
		}
		m := impl.Stored{Uid: source.Intn(12), Flags: source.Intn(32), Text: text}
		counts[checkMeetsAll(t, keys, m, 1+source.Intn(10), source.Intn(12), source.Intn(12))]++
	}
	if counts[true] < 400 || counts[false] < 400 {
		t.Error("made keys that made mails meet, and do not:", counts)
	}
}

// One key among twenty decides, wherever it stands.
func TestOneKeyOfMany(t *testing.T) {
	m := impl.Stored{Uid: 5, Flags: impl.FlSeen, Text: mailOfFields("Subject: word", "From: who")}
	yes := []impl.SearchKey{keyOf("ALL"), keyOf("SEEN"), turned(keyOf("DRAFT")), wordKey("SUBJECT", "WORD"), setKey("UID", 5, 0), setKey("SET", 2, 2)}
	no := []impl.SearchKey{turned(keyOf("ALL")), keyOf("UNSEEN"), keyOf("DRAFT"), wordKey("FROM", "word"), setKey("UID", 1, 4), turned(setKey("SET", 2, 2))}
	for n := 1; n <= 20; n++ {
		keys := slices.Repeat(yes, 4)[:n]
		if meets, code := checkMatch(t, keys, m, 2, 3, 5); !meets || code != impl.OK {
			t.Errorf("MatchSearch of %d keys that are met: %v, %d", n, meets, code)
		}
		for place := range n {
			for _, k := range no {
				some := slices.Clone(keys)
				some[place] = k
				checkMatchCode(t, some, m, 2, 3, 5, impl.OK)
			}
		}
	}
}

// wrongKeys is keys of which none is right.
func wrongKeys() []impl.SearchKey {
	list := []impl.SearchKey{{}, {Text: "a"}, {Set: rangesOf(1, 1)}}
	for _, kind := range []string{"", " ", "NOT", "set", "Set", "uid", "seen", "Seen", "all", "subject", "Text", "SEEN ", " SEEN", "SEENN", "UNFLAGGED", "UNANSWERED", "UNDRAFT", "NEW", "OR", "SUBJEC", "1", "*", "SE\u0422", "\xff", longText, endlessText} {
		list = append(list, keyOf(kind), wordKey(kind, "a"), setKey(kind, 1, 1))
	}
	for _, kind := range loneKinds {
		list = append(list, wordKey(kind, "a"), wordKey(kind, " "), setKey(kind, 1, 1), setKey(kind, 0, 0), impl.SearchKey{Kind: kind, Text: "a", Set: rangesOf(1, 1)}, wordKey(kind, endlessText))
	}
	for _, kind := range wordKinds {
		list = append(list, setKey(kind, 1, 1), impl.SearchKey{Kind: kind, Text: "a", Set: rangesOf(1, 2)}, setKey(kind, -1, 1), impl.SearchKey{Kind: kind, Text: "a", Set: make([]impl.Range, 2*impl.MaxList)})
	}
	for _, kind := range []string{"UID", "SET"} {
		list = append(list, keyOf(kind), impl.SearchKey{Kind: kind, Set: []impl.Range{}}, wordKey(kind, "a"), wordKey(kind, "1"), impl.SearchKey{Kind: kind, Text: "1", Set: rangesOf(1, 1)}, setKey(kind, -1, 1), setKey(kind, 1, 4294967296), setKey(kind, math.MinInt, math.MaxInt))
		for _, n := range []int{51, impl.MaxList, impl.MaxList + 1} {
			list = append(list, impl.SearchKey{Kind: kind, Set: slices.Repeat(rangesOf(1, 1), n)})
		}
	}
	return list
}

func TestWrongKeys(t *testing.T) {
	m := impl.Stored{Uid: 5, Text: mailOfFields("Subject: a")}
	for _, k := range wrongKeys() {
		for _, k.Not = range []bool{false, true} {
			checkMatchCode(t, []impl.SearchKey{k}, m, 2, 3, 5, impl.ErrBad)
			checkMatchCode(t, []impl.SearchKey{keyOf("ALL"), k}, m, 2, 3, 5, impl.ErrBad)
			// Behind a key that is not met, too, and ahead of a number out of its bounds.
			checkMatchCode(t, []impl.SearchKey{keyOf("SEEN"), k, keyOf("ALL")}, m, 2, 3, 5, impl.ErrBad)
			checkMatchCode(t, append(slices.Repeat([]impl.SearchKey{keyOf("SEEN")}, 19), k), m, 0, -1, -1, impl.ErrBad)
		}
	}
	// Lists that are empty are no lists.
	for _, k := range []impl.SearchKey{keyOf("ALL"), wordKey("TEXT", "a"), wordKey("SUBJECT", "")} {
		k.Set = []impl.Range{}
		checkMeets(t, k, m, true)
	}
}

func TestManyKeysOfMails(t *testing.T) {
	m := impl.Stored{Uid: 5, Flags: 31}
	for _, k := range someKeys() {
		for n := 1; n <= 24; n++ {
			keys := slices.Repeat([]impl.SearchKey{k}, n)
			if n <= 20 {
				checkMeetsAll(t, keys, m, 1, 1, 5)
			} else {
				checkMatchCode(t, keys, m, 1, 1, 5, impl.ErrBad)
				checkMatchCode(t, keys, m, 0, -1, 5, impl.ErrBad)
			}
		}
		checkMatchCode(t, slices.Repeat([]impl.SearchKey{k}, impl.MaxList), m, 1, 1, 5, impl.ErrBad)
		checkMatchCode(t, slices.Repeat([]impl.SearchKey{k}, impl.MaxList+1), m, 1, 1, 5, impl.ErrLong)
	}
	// Beside a list that is too long nothing else is told.
	long := make([]impl.SearchKey, impl.MaxList+1)
	checkMatchCode(t, long, m, 0, -1, -1, impl.ErrLong)
	checkMatchCode(t, long[:impl.MaxList], m, 0, -1, -1, impl.ErrBad)
}

func TestBoundsOfMatches(t *testing.T) {
	m := impl.Stored{Uid: 5}
	right := map[string][]int{"seq": {1, 2, 4294967294, 4294967295}, "top": {0, 1, 4294967294, 4294967295}}
	wrong := map[string][]int{"seq": {0, -1, 4294967296, math.MinInt, math.MaxInt}, "top": {-1, -2, 4294967296, math.MinInt, math.MaxInt}}
	for _, keys := range [][]impl.SearchKey{nil, {keyOf("ALL")}, {keyOf("SEEN")}, {setKey("SET", 1, 0), setKey("UID", 0, 5)}} {
		for _, seq := range right["seq"] {
			for _, top := range right["top"] {
				for _, other := range right["top"] {
					if _, code := checkMatch(t, keys, m, seq, top, other); code != impl.OK {
						t.Errorf("MatchSearch with %d, %d, %d has the code %d", seq, top, other, code)
					}
				}
				for _, other := range wrong["top"] {
					checkMatchCode(t, keys, m, seq, top, other, impl.ErrRange)
					checkMatchCode(t, keys, m, seq, other, top, impl.ErrRange)
					checkMatchCode(t, keys, m, seq, other, other, impl.ErrRange)
				}
			}
		}
		for _, seq := range wrong["seq"] {
			for _, top := range append(right["top"], wrong["top"]...) {
				checkMatchCode(t, keys, m, seq, top, 1, impl.ErrRange)
				checkMatchCode(t, keys, m, seq, 1, top, impl.ErrRange)
			}
		}
	}
}

func TestLongMails(t *testing.T) {
	for _, text := range []string{fullText, mailOfBytes(impl.MaxText), mailOfBytes(impl.MaxText - 1), strings.Repeat("\xff", impl.MaxText), strings.Repeat("\r\n", impl.MaxText/2)} {
		for _, k := range someKeys() {
			checkMeetsAll(t, []impl.SearchKey{k}, impl.Stored{Uid: 5, Text: text}, 1, 1, 5)
		}
		checkMeets(t, wordKey("TEXT", text), impl.Stored{Text: text}, true)
		checkMeets(t, wordKey("TEXT", text+"a"), impl.Stored{Text: text}, false)
	}
	checkMeets(t, wordKey("SUBJECT", "B"), impl.Stored{Text: mailOfBytes(impl.MaxText)}, true)
	for _, text := range []string{longText, mailOfBytes(impl.MaxText + 1), endlessText} {
		m := impl.Stored{Uid: 5, Text: text}
		for _, k := range append(someKeys(), wrongKeys()[:9]...) {
			checkMatchCode(t, []impl.SearchKey{k}, m, 1, 1, 5, impl.ErrLong)
			checkMatchCode(t, []impl.SearchKey{k}, m, 0, -1, -1, impl.ErrLong)
		}
		checkMatchCode(t, make([]impl.SearchKey, 21), m, 0, -1, -1, impl.ErrLong)
		checkMatchCode(t, make([]impl.SearchKey, impl.MaxList+1), m, 1, 1, 5, impl.ErrLong)
	}
}
