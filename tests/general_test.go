package tests

import (
	"math"
	"reflect"
	"slices"
	"strings"
	"testing"
	"unsafe"

	"loop.example/g00268/impl"
)

// Texts of all sorts: right, wrong, empty, at the bounds and beyond them.
func sampleTexts() []string {
	return []string{
		"", "a", "_name9", "9name", "ok", "gone", "none such", "a\u00e4\u20ac\U0001f600", "\ufffd",
		"Zg==", "Zm9vZm8=", "a=3Db=\r\nc=20\r\n", "=3d", "a\rb\nc\r\n\r\n",
		"X-Id", "plain words", " a  b ", "=?utf-8?B?w6Q=?= =?utf-8?B?w6Q=?= b", "=?utf-8?B?w6Q?=", "Name: a\r\n b\r\n", "Name: \r\n", "Name:a\r\n",
		strings.Repeat("w", 201), wordsOf(impl.MaxHeader, 60), wordsOf(impl.MaxHeader+1, 60), strings.Repeat("\u20ac", 333), strings.Repeat("\u20ac", 334),
		"2020-01-02T03:04:05Z", "2020-01-02T03:04:05.5-01:30", "1970-01-01T00:00:00+00:01", "Thu, 02 Jan 2020 03:04:05 +0000", "2 Jan 2020 03:04:05 UT", "31 Dec 2099 23:59:59 -0001",
		"<a b='1 &amp; 2' c=\"\">x<!-- y --><b/>\r<![CDATA[z]]></a>", "<a>", "<a/>&none;", "a&b<c>\"'\r", "&#x20ac;", strings.Repeat("<a>", 13), "<a b='' b=''/>", strings.Repeat("&", impl.MaxText/8), strings.Repeat("&", impl.MaxText/8+1),
		"<rss version='2.0'><channel><title>t</title><item><guid>i</guid><title> a\n b</title></item></channel></rss>", "<feed><entry><link href='l'/><author><name>n</name></author><updated>2020-01-02T03:04:05Z</updated><content> c\r</content></entry></feed>", "<feed><entry/></feed>", "<rss/>", "<feed><title>" + longLine + "</title></feed>",
		"X: y\r\n z\r\n\r\na\r\n", "X: y\r\n", "X: \u00e4\r\n\r\n", "\r\n", strings.Join(rightFields(), "") + "\r\ne =3D\r\n", strings.Join(rightFields(), "") + "\r\n=\r\n", manyFields(40) + "\r\n\r\n", manyFields(41) + "\r\n\r\n", mailOfBytes(impl.MaxText), mailOfBytes(impl.MaxText + 1), "TEXT", "HEADER",
		"1", "*:7,5:3", "1,,2", "4294967296", strings.Repeat("1,", 50) + "*", "()", "(\\Seen \\DRAFT)", "(\\Seen  \\Draft)", "(none)", "\\Seen",
		"a1 uid (b [c]) \"d \\\"\" {2}\r\n\r\n e", "a noop\r\nb", "a {3}\r\n{1}\r\n\r\n", "a {3}\r\n{1}", "a {4001}\r\n", "a \"\"", "a b \"c", "(a [b] c)", strings.Repeat("t", 20) + " N" + strings.Repeat(" w", impl.MaxArgs), "t N" + strings.Repeat(" w", impl.MaxArgs+1), strings.Repeat("x", impl.MaxCommand) + "\r\ny", strings.Repeat("x", impl.MaxCommand+1) + "\r\ny",
		"\xff", "\xc0\x80", "a\xe2\x82", "\xed\xa0\x80", "\xf4\x90\x80\x80", "\x80b\xff",
		strings.Repeat("n", impl.MaxName), strings.Repeat("n", impl.MaxName+1), lineBytes(impl.MaxField), longLine,
		strings.Repeat("\u20ac", impl.MaxList), fullText, strings.Repeat("\xff", impl.MaxText),
		longText, fullText + "\xff", endlessText,
	}
}

func sampleNumbers() []int {
	return []int{
		0, 1, 2, 19, 20, -1, 0x7f, 0x80, 0xd800, 0x10ffff, 0x110000, impl.MaxText, impl.MaxText + 1,
		1577934245, impl.MaxStamp, impl.MaxStamp + 1, 1 << 32, math.MaxInt, math.MinInt,
	}
}

func sampleCivils() []impl.Civil {
	return []impl.Civil{
		{}, civil(1970, 1, 1, 0, 0, 0), civil(2000, 2, 29, 1, 2, 3), civil(2099, 12, 31, 23, 59, 59), civil(2100, 1, 1, 0, 0, 0), civil(2001, 2, 29, 0, 0, 0), civil(2000, 1, 1, 24, 0, 0),
		civil(math.MaxInt, 1, 1, 0, 0, 0), civil(2000, math.MinInt, math.MaxInt, math.MinInt, math.MaxInt, math.MinInt), civil(2000, 1, 1, 0, 0, math.MaxInt),
	}
}

func sampleLists() [][]int {
	return [][]int{
		nil, {}, {'a'}, {'a', 0xe4, 0x20ac, 0x1f600}, {0xd800}, {'a', -1}, {math.MaxInt}, {math.MinInt, 'b'},
		slices.Repeat([]int{0x10ffff}, impl.MaxList), slices.Repeat([]int{'a'}, impl.MaxList+1),
		slices.Repeat([]int{-1}, impl.MaxList+1), slices.Repeat([]int{-1}, 40*impl.MaxList),
	}
}

func sampleBytes() [][]byte {
	return [][]byte{
		nil, {}, {0}, {255, 254}, []byte("foo"), []byte("Zg=="), []byte("a = b \r\n\r\r\n "), []byte(strings.Repeat("x", 77)),
		madeBytes(1000, 1), []byte(fullText), madeBytes(impl.MaxText, 2), []byte(longText), []byte(endlessText),
	}
}

func sampleTokens() [][]impl.Token {
	pair := []impl.Token{start("b", "c", "v"), end("b")}
	return [][]impl.Token{
		nil, {}, {{}}, {start("a"), end("a")}, {end("a"), start("a")}, {start("a", "b", "<\r>", "c", ""), chars("x & \u20ac"), end("a")}, {start("a", "b", "", "b", ""), end("a")}, within(chars("x"), chars("y")), within(chars("\xff")), within(impl.Token{Kind: math.MinInt, Name: longText}),
		within(slices.Repeat(pair, 299)...), within(slices.Repeat(pair, 300)...), slices.Repeat(pair, impl.MaxList/2), slices.Repeat(pair, impl.MaxList), within(chars(fullText)), {start(endlessText, endlessText, endlessText)},
	}
}

func sampleFeeds() []impl.Feed {
	list := []impl.Feed{{}, {Atom: true, Entries: []impl.Entry{}}, {Title: "two\nlines"}, {Title: longLine}, {Title: endlessText}}
	for _, atom := range []bool{false, true} {
		list = append(list,
			impl.Feed{Atom: atom, Title: "t", Entries: []impl.Entry{plainEntry, {Id: "i"}, plainEntry}},
			impl.Feed{Atom: atom, Entries: slices.Repeat([]impl.Entry{plainEntry}, impl.MaxEntries)}, impl.Feed{Atom: atom, Entries: slices.Repeat([]impl.Entry{plainEntry}, impl.MaxEntries+1)}, impl.Feed{Atom: atom, Entries: make([]impl.Entry, 2*impl.MaxList)},
			feedOfBytes(atom, impl.MaxText), feedOfBytes(atom, impl.MaxText+1),
			impl.Feed{Atom: atom, Entries: []impl.Entry{{Id: "i", Date: math.MinInt}}}, impl.Feed{Atom: atom, Entries: []impl.Entry{{Id: "i", Title: "\xff", Link: longText, Author: "\x00", Date: math.MaxInt, Content: endlessText}}},
		)
	}
	return list
}

func sampleMails() []impl.Mail {
	field := impl.Field{Name: "Subject", Value: "a"}
	return []impl.Mail{
		{}, {Fields: []impl.Field{}, Body: longText}, {Fields: []impl.Field{field, {Name: "SUBJECT", Value: "b"}}}, {Fields: []impl.Field{{}, {Name: "\xff", Value: "\x00"}}, Body: "\r\n"}, {Fields: []impl.Field{{Name: longText, Value: endlessText}, {Name: "a", Value: longText}}, Body: endlessText},
		{Fields: slices.Repeat([]impl.Field{field}, 40)}, {Fields: slices.Repeat([]impl.Field{field}, 41)}, {Fields: slices.Repeat([]impl.Field{field}, 2*impl.MaxList)},
	}
}

func sampleLogs() []impl.Log {
	data := allWritten("a", "\x00\xff", "record")
	longest := allWritten(string(madeBytes(impl.MaxRecord, 1)), string(madeBytes(impl.MaxRecord, 2)))
	return []impl.Log{
		{}, {Room: 1}, {Room: 7}, {Room: 8}, {Room: impl.MaxRoom}, {Room: impl.MaxRoom + 1}, {Room: -1}, {Room: math.MinInt, Data: endlessText, Sure: math.MaxInt}, {Room: math.MaxInt, Data: longText, Sure: math.MinInt},
		{Room: len(data), Data: data}, {Room: 1000, Data: data, Sure: 8}, {Room: 1000, Data: data, Sure: 20}, {Room: 1000, Data: data, Sure: len(data)}, {Room: 1000, Data: data, Sure: len(data) + 1}, {Room: len(data) - 1, Data: data}, {Room: 1000, Data: data, Sure: -1}, {Room: 1000, Data: data[:len(data)-1]}, {Room: 1000, Data: data[:20], Sure: 9}, {Room: 1000, Data: "\xff" + data}, {Room: 1000, Data: data[:len(data)-1] + "x", Sure: 17}, {Room: 100, Data: data + strings.Repeat("\x00", 7)},
		{Room: impl.MaxRoom, Data: longest, Sure: 1}, {Room: impl.MaxRoom, Data: longest[:30000], Sure: 30000}, {Room: impl.MaxRoom, Data: strings.Repeat("\xff", impl.MaxRoom)}, {Room: impl.MaxRoom, Data: strings.Repeat(written("a"), impl.MaxRoom/8), Sure: impl.MaxRoom},
	}
}

func sampleStores() [][]impl.Box {
	wrong := plainBox("a", 1)
	wrong.Keys[0] = wrong.Keys[1]
	return append(someStores(),
		[]impl.Box{wrong}, []impl.Box{{}}, []impl.Box{plainBox("a", 2)}, []impl.Box{plainBox("a", 1), plainBox("a", 2)}, []impl.Box{boxOf("a", 1, 61)}, []impl.Box{{Name: endlessText, Valid: math.MaxInt, Next: math.MinInt, Mails: []impl.Stored{{Uid: math.MinInt, Flags: math.MaxInt, Text: endlessText}}, Keys: []string{endlessText, longText}}},
		make([]impl.Box, impl.MaxBoxes+1), make([]impl.Box, impl.MaxList), make([]impl.Box, impl.MaxList+1),
	)
}

func sampleMutations() []impl.Mutation {
	return append(someMutations("first"), added("none", "k"), flagged("full", 30, impl.MoAdd, 8), expunged("full"), added("full", "k"), added("spent", "k"), mutationOfBytes(impl.MaxRecord), mutationOfBytes(impl.MaxRecord+1), impl.Mutation{Kind: math.MinInt, Uid: math.MaxInt, Mode: math.MinInt, Flags: math.MaxInt, Box: endlessText, Items: make([]impl.Item, 2*impl.MaxList)})
}

func sampleEngines() []impl.Engine {
	right, wrong := someEngines(), wrongEngines()
	return append(right, wrong[0], wrong[8], wrong[15], wrong[len(wrong)-1], wrong[len(wrong)-2], wrong[len(wrong)-4], impl.Engine{Log: impl.Log{Room: math.MaxInt, Data: endlessText, Sure: math.MinInt}, Boxes: make([]impl.Box, impl.MaxList+1)})
}

// Feeds that are read, and ones that are not, beside those of sampleTexts.
func samplePolls() []string {
	return []string{
		"", "<a>", "<feed/>", feedOfIds("a", "b", "a"), itemsOfIds("key 1", "new"), feedOfIds(keysOf(21)...), feedText(impl.Feed{Entries: []impl.Entry{entryOfMail("i", impl.MaxLetter)}}), feedText(impl.Feed{Atom: true, Entries: []impl.Entry{entryOfMail("i", impl.MaxLetter+1)}}), longText,
	}
}

func sampleSets() [][]impl.Range {
	return [][]impl.Range{
		nil, {}, rangesOf(1, 1), rangesOf(0, 0), rangesOf(5, 3, 0, 7), rangesOf(1, 4294967295), rangesOf(-1, 1), rangesOf(1, 4294967296), rangesOf(math.MinInt, math.MaxInt),
		slices.Repeat(rangesOf(2, 0), 50), slices.Repeat(rangesOf(2, 0), 51), make([]impl.Range, impl.MaxList), make([]impl.Range, impl.MaxList+1),
	}
}

func sampleSearches() [][]impl.SearchKey {
	list := [][]impl.SearchKey{nil, {}, someKeys()[:8], slices.Repeat([]impl.SearchKey{turned(wordKey("SUBJECT", "no"))}, 20), slices.Repeat([]impl.SearchKey{keyOf("ALL")}, 21), make([]impl.SearchKey, impl.MaxList), make([]impl.SearchKey, impl.MaxList+1)}
	for _, k := range append(someKeys(), wordKey("TEXT", longText), wordKey("ALL", longText), keyOf(endlessText), setKey("UID", -1, math.MaxInt), setKey("SEEN", 1, 1)) {
		list = append(list, []impl.SearchKey{k}, []impl.SearchKey{keyOf("ALL"), turned(k)})
	}
	return list
}

func sampleStored() []impl.Stored {
	return []impl.Stored{{}, {Uid: 5, Flags: 21, Text: mailOfFields("Subject: A word", "From: =?utf-8?B?w6Q=?=")}, {Uid: math.MinInt, Flags: math.MinInt, Text: "\xff"}, {Uid: math.MaxInt, Flags: -1, Text: fullText}, {Uid: 1, Text: longText}}
}

// Words that are searches, and ones that are none.
func sampleWords() [][]string {
	return [][]string{
		nil, {}, {"all"}, {"not", "Seen", "subject", "a Word", "uid", "2:*", "1"}, {"not"}, {"NOT", "not", "1,2"}, {"text"}, {"from", ""}, {"uid", "none"}, {"\xff"}, {"text", endlessText}, {endlessText},
		slices.Repeat([]string{"not", "1"}, 20), slices.Repeat([]string{"1"}, 21), append(slices.Repeat([]string{"not"}, impl.MaxList-1), "seen"), slices.Repeat([]string{"seen"}, impl.MaxList+1),
	}
}

// Commands that have a text, and ones that have none.
func sampleCommands() []impl.Command {
	list := []impl.Command{{}, {Tag: "a", Name: "lower"}, {Tag: "a", Name: "(X"}, {Tag: endlessText, Name: longText, Args: []string{endlessText}}, {Tag: "a", Name: fullText}, {Tag: "a b", Name: "X"}}
	for _, words := range append(sampleWords(), []string{"\r\n", "(", "\"", "\\", strings.Repeat("w", 200), strings.Repeat("w", 201)}, []string{strings.Repeat("w", impl.MaxCommand)}, []string{strings.Repeat("w", impl.MaxCommand), "w"}, make([]string, impl.MaxArgs), make([]string, impl.MaxArgs+1)) {
		list = append(list, impl.Command{Tag: "a1", Name: "X", Args: words}, impl.Command{Tag: "}", Name: "(A [B])", Args: words})
	}
	return list
}

// Sessions that are right, and ones that are not.
func sampleSessions() []impl.Imap {
	return append(someSays(), impl.Imap{}, selectedOf("news", false, 1, 3, 4), selectedOf("gone", true, 1), selectedOf("", false), selectedOf(endlessText, true, math.MinInt, math.MaxInt), selectedOf("news", false, make([]int, impl.MaxList+1)...), impl.Imap{State: 2, View: []int{1}}, impl.Imap{State: math.MinInt})
}

// Views that are right, and ones that are not.
func sampleViews() [][]int {
	return append(wrongViews(), nil, []int{}, []int{1}, []int{1, 3, 5}, []int{2, 1000}, upTo(1, 60), upTo(1, impl.MaxUid), make([]int, impl.MaxList), make([]int, impl.MaxList+1))
}

// Commands of sessions, and what is none.
func sampleLines() []string {
	return []string{
		"", "a", "a noop", "a login me feed", "a list x *", "a select news", "a examine more", "a status news (messages unseen)", "a fetch 1:* (flags uid body[text])", "a uid fetch * body.peek[]", "a store 1:* +flags (\\Seen)", "a uid store 1,3 flags.silent (\\Deleted)", "a search not seen text b", "a expunge", "a close", "a logout", "a {2}\r\n\r\n \"", strings.Repeat("x", impl.MaxCommand), strings.Repeat("x", impl.MaxCommand+1), longText,
	}
}

// Items of FETCH, and what is none.
func sampleItems() [][]string {
	return [][]string{nil, {}, {"flags"}, {"UID", "body[]", "BODY.PEEK[text]", "rfc822.size"}, {"body[x]"}, {"flags", ""}, {endlessText}, slices.Repeat([]string{"body[header]"}, impl.MaxArgs), slices.Repeat([]string{"uid"}, impl.MaxArgs+1), make([]string, impl.MaxList), make([]string, impl.MaxList+1)}
}

// Sessions that read news, right and not.
func sampleReaders() []impl.Nntp {
	return append(someReaders()[:9:9], impl.Nntp{Over: true}, impl.Nntp{Group: "first", Now: 3}, impl.Nntp{Group: "full", Now: 30}, impl.Nntp{Group: "gone", Now: 1}, impl.Nntp{Now: 1}, impl.Nntp{Over: true, Group: "news", Now: 1}, impl.Nntp{Group: endlessText}, impl.Nntp{Group: "news", Now: math.MinInt}, impl.Nntp{Group: "news", Now: impl.MaxUid + 1})
}

// Lines of sessions that read news, and what is none.
func sampleNews() []string {
	return []string{
		"", "  ", "capabilities", "mode reader", "mode", "list", "group news", "GROUP first", "group none", "listgroup", "listgroup more", "article", "article 2", "head 3", "body 1", "body x", "stat 1000", "next", "last", "over", "over 1-", "over 3-1", "over x", "post", "quit", "quit x", "\xff", strings.Repeat(" ", 500), strings.Repeat("x", 501), fullText, longText,
	}
}

// Boxes with mails beside those of sampleStores, whose texts are none.
func readStores() [][]impl.Box { return append(sampleStores(), newsBoxes()) }

// Engines with mails beside those of sampleEngines, whose texts are none.
func talkedEngines() []impl.Engine {
	return append(sampleEngines(), newsEngine(0), newsEngine(30), newsEngine(5000))
}

// Worlds that are right, with connections of every sort, and ones that are not.
func sampleWorlds() []impl.World {
	conns := []impl.Conn{{Kind: 1, Imap: selectedOf("news", false, 1, 2, 3), Buffer: "a no"}, {Kind: 2, Nntp: impl.Nntp{Group: "news", Now: 1}, Buffer: "quit\r"}, {Kind: 1, Imap: impl.Imap{State: 2}, Buffer: strings.Repeat("x", 8000)}, {}}
	wrong := slices.Clone(conns)
	wrong[3] = impl.Conn{Kind: math.MinInt, Buffer: endlessText, Imap: selectedOf(endlessText, true, make([]int, impl.MaxList+1)...), Nntp: impl.Nntp{Group: endlessText, Now: math.MaxInt, Over: true}}
	list := []impl.World{{}, {Conns: make([]impl.Conn, 4)}, {Engine: newsEngine(0), Conns: conns}, {Engine: newsEngine(500), Conns: conns}, {Engine: newsEngine(5000), Conns: conns}, {Engine: newsEngine(500), Conns: conns[:3]}, {Engine: newsEngine(500), Conns: wrong}, {Engine: newsEngine(500), Conns: make([]impl.Conn, impl.MaxList+1)}}
	for _, e := range sampleEngines() {
		list = append(list, impl.World{Engine: e, Conns: make([]impl.Conn, 4)})
	}
	return list
}

// Events of all kinds, and of ones that are none.
func sampleEvents() []impl.Event {
	list := []impl.Event{{}, {Kind: math.MinInt, Conn: math.MaxInt, Keep: math.MinInt, Box: endlessText, Data: endlessText}, {Kind: 8}, {Kind: 6, Box: "a_box"}, {Kind: 6, Box: "news"}, {Kind: 6, Box: "9"}, {Kind: 6, Box: fullText}, {Kind: 6, Box: longText}}
	for _, conn := range []int{-1, 0, 1, 2, 3, 4, math.MaxInt, math.MinInt} {
		list = append(list, impl.Event{Kind: 1, Conn: conn}, impl.Event{Kind: 2, Conn: conn}, impl.Event{Kind: 4, Conn: conn})
		for _, data := range []string{"", "op\r\n", "\nlist\r\n", "\r\na store 1:* +flags (\\Deleted)\r\nb expunge\r\ngroup more\r\nc", "\r\nquit\r\na logout\r\n", strings.Repeat("\r\n", 2000), strings.Repeat("x", 4000), strings.Repeat("x", 4001), longText} {
			list = append(list, impl.Event{Kind: 3, Conn: conn, Data: data})
		}
	}
	for _, feed := range samplePolls() {
		for _, keep := range []int{math.MinInt, 0, 20, math.MaxInt} {
			list = append(list, impl.Event{Kind: 7, Keep: keep, Box: "news", Data: feed})
		}
		list = append(list, impl.Event{Kind: 5, Box: "news", Data: feed}, impl.Event{Kind: 5, Box: "none", Data: feed})
	}
	return list
}

// Lists of events, of which some are too long, or have texts that are.
func sampleRuns() [][]impl.Event {
	begin := []impl.Event{{Kind: 6, Box: "news"}, {Kind: 5, Box: "news", Data: feedOfIds("a", "b", "c")}, {Kind: 1}, {Kind: 3, Data: "a login me feed\r\nb select news\r\nc"}, {Kind: 2, Conn: 1}, {Kind: 3, Conn: 1, Data: "group news\r\nover 1-\r"}}
	short := slices.DeleteFunc(sampleEvents(), func(e impl.Event) bool { return len(e.Box) > impl.MaxText || len(e.Data) > impl.MaxText })
	list := [][]impl.Event{nil, {}, begin, make([]impl.Event, impl.MaxEvents), make([]impl.Event, impl.MaxEvents+1), make([]impl.Event, impl.MaxList+1), sampleEvents()[:impl.MaxEvents]}
	for chunk := range slices.Chunk(short, impl.MaxEvents-len(begin)) {
		list = append(list, append(slices.Clone(begin), chunk...))
	}
	return list
}

// Texts of lines of a console, and lines of their own.
func sampleScripts() []string {
	list := []string{"make a", " poll  a  <feed/> ", "say 0 a  b ", "say 3", "imap -1", "nntp 999999999999999999", "close 01", "crash", "crash now", "make a\nb", "#", " # x", "poll a " + strings.Repeat("x", 32761), "poll a " + strings.Repeat("x", 32762), strings.Repeat("\n", 100), strings.Repeat("\n", 101), strings.Repeat("\n", 32769)}
	for _, lines := range everyScripts() {
		list = append(list, strings.Join(lines, "\n"))
	}
	return list
}

// A call that is put to the program, and what it answers: the code, if it has one, is the last of all.
type call struct {
	name  string
	coded bool
	ask   func() []any
}

func oneAnswer[T any](v T) []any { return []any{v} }

func withCode[T any](v T, code int) []any { return []any{v, code} }

func twoWithCode[T, U any](v T, w U, code int) []any { return []any{v, w, code} }

// A place stands beside a code too.
func tokensWithCode(list []impl.Token, _, code int) []any { return []any{list, code} }

func placeAlone(_ []impl.Token, place, _ int) []any { return []any{place} }

// A log, or records, stand beside some codes of the calls of logs that are not told to be coded.
func callsOfLogs() []call {
	var list []call
	for _, l := range sampleLogs() {
		list = append(list,
			call{"LogOK", false, func() []any { return oneAnswer(impl.LogOK(l)) }},
			call{"LogSync", true, func() []any { return withCode(impl.LogSync(l)) }},
			call{"LogRecords", false, func() []any { return twoWithCode(impl.LogRecords(l)) }},
			call{"LogRepair", false, func() []any { return withCode(impl.LogRepair(l)) }},
		)
		for _, n := range sampleNumbers() {
			list = append(list, call{"LogCrash", true, func() []any { return withCode(impl.LogCrash(l, n)) }})
		}
		for _, x := range []string{"", "a", "\x00\xff", fullText[:impl.MaxRecord], fullText[:impl.MaxRecord+1], fullText, longText} {
			list = append(list, call{"LogAppend", false, func() []any { return withCode(impl.LogAppend(l, x)) }})
		}
	}
	return list
}

// An engine and a session stand beside ErrState of ImapStep.
func callsOfSessions() []call {
	list := []call{{"NewImap", false, func() []any { return oneAnswer(impl.NewImap()) }}}
	for _, s := range sampleSessions() {
		list = append(list, call{"ImapOK", false, func() []any { return oneAnswer(impl.ImapOK(s)) }})
		for _, e := range talkedEngines() {
			for _, x := range sampleLines() {
				list = append(list, call{"ImapStep", s.State != impl.ImClosed, func() []any {
					got, next, said, code := impl.ImapStep(e, s, x)
					return []any{got, next, said, code}
				}})
			}
		}
	}
	for _, e := range talkedEngines() {
		for _, lines := range append(sampleWords(), sampleLines()[:17], append([]string{"a login me feed", "a select news"}, sampleLines()[:17]...), sampleLines(), make([]string, 60), make([]string, 61)) {
			list = append(list, call{"ImapRun", true, func() []any { return twoWithCode(impl.ImapRun(e, lines)) }})
		}
	}
	for _, boxes := range sampleStores() {
		for _, b := range boxes[:min(len(boxes), 2)] {
			for _, view := range sampleViews() {
				list = append(list, call{"ViewUpdates", true, func() []any { return twoWithCode(impl.ViewUpdates(b, view)) }})
			}
		}
	}
	for _, m := range append(sampleStored(), impl.Stored{Uid: 1, Flags: 31, Text: "X: y\r\n\r\nbody\r\n"}, impl.Stored{Uid: impl.MaxUid, Text: mailOfBytes(impl.MaxLetter)}) {
		for _, seq := range []int{0, 1, impl.MaxNumber, impl.MaxNumber + 1, math.MinInt} {
			for _, items := range sampleItems() {
				list = append(list,
					call{"FetchText", true, func() []any { return twoWithCode(impl.FetchText(m, seq, items, false)) }},
					call{"FetchText", true, func() []any { return twoWithCode(impl.FetchText(m, seq, items, true)) }},
				)
			}
		}
	}
	return list
}

// A session stands beside ErrState of NntpStep.
func callsOfReaders() []call {
	var list []call
	for _, boxes := range readStores() {
		for _, s := range sampleReaders() {
			for _, line := range sampleNews() {
				list = append(list, call{"NntpStep", !s.Over, func() []any { return twoWithCode(impl.NntpStep(boxes, s, line)) }})
			}
		}
		for _, lines := range append(sampleWords(), sampleNews(), append([]string{"group news"}, sampleNews()[:24]...), make([]string, 60), make([]string, 61)) {
			list = append(list, call{"NntpRun", true, func() []any { return withCode(impl.NntpRun(boxes, lines)) }})
		}
		for _, b := range boxes[:min(len(boxes), 2)] {
			for _, m := range b.Mails {
				list = append(list, call{"OverLine", true, func() []any { return withCode(impl.OverLine(m)) }})
			}
		}
	}
	for _, m := range sampleStored() {
		list = append(list, call{"OverLine", true, func() []any { return withCode(impl.OverLine(m)) }})
	}
	return list
}

func callsOfWorlds() []call {
	var list []call
	for _, w := range sampleWorlds() {
		list = append(list, call{"WorldOK", false, func() []any { return oneAnswer(impl.WorldOK(w)) }})
		for _, e := range sampleEvents() {
			list = append(list, call{"WorldStep", true, func() []any { return twoWithCode(impl.WorldStep(w, e)) }})
		}
	}
	for _, events := range sampleRuns() {
		for _, room := range []int{-1, 0, 500, impl.MaxRoom, impl.MaxRoom + 1} {
			list = append(list, call{"WorldRun", true, func() []any { return twoWithCode(impl.WorldRun(room, events)) }})
		}
	}
	for _, lines := range append(sampleWords(), sampleLines()[:17], sampleLines(), sampleNews()[:24], sampleNews()) {
		for _, kind := range sampleNumbers() {
			list = append(list, call{"SayAll", true, func() []any { return withCode(impl.SayAll(lines, kind)) }})
		}
	}
	return list
}

func callsOfConsoles() []call {
	var list []call
	for _, x := range append(sampleTexts(), sampleScripts()...) {
		list = append(list,
			call{"ReadLine", true, func() []any { return withCode(impl.ReadLine(x)) }},
			call{"Console", true, func() []any { return withCode(impl.Console(x)) }},
		)
	}
	return list
}

// Boxes stand beside most codes of ApplyMutation.
func callsOfBoxes() []call {
	var list []call
	for _, boxes := range sampleStores() {
		list = append(list, call{"StoreOK", false, func() []any { return oneAnswer(impl.StoreOK(boxes)) }})
		for _, b := range boxes[:min(len(boxes), 3)] {
			list = append(list, call{"BoxOK", false, func() []any { return oneAnswer(impl.BoxOK(b)) }})
			for _, n := range append(sampleNumbers(), 3, 4, 31, 32, 60) {
				list = append(list,
					call{"StoredAt", true, func() []any { return withCode(impl.StoredAt(b, n)) }},
					call{"CountFlag", true, func() []any { return withCode(impl.CountFlag(b, n)) }},
				)
			}
		}
		for _, m := range sampleMutations() {
			list = append(list, call{"ApplyMutation", false, func() []any { return withCode(impl.ApplyMutation(boxes, m)) }})
		}
		for _, name := range []string{"", "first", "full", "none", fullText, longText} {
			list = append(list, call{"BoxAt", true, func() []any { return withCode(impl.BoxAt(boxes, name)) }})
		}
		for _, other := range sampleStores() {
			list = append(list, call{"SameStore", true, func() []any { return withCode(impl.SameStore(boxes, other)) }})
		}
	}
	for _, m := range sampleMutations() {
		list = append(list,
			call{"MutationOK", false, func() []any { return oneAnswer(impl.MutationOK(m)) }},
			call{"MutationBytes", true, func() []any { return withCode(impl.MutationBytes(m)) }},
			call{"ReadMutation", true, func() []any { return withCode(impl.ReadMutation(writtenMutation(m))) }},
		)
	}
	return list
}

// An engine stands beside most codes of Commit and Poll.
func callsOfEngines() []call {
	var list []call
	for _, e := range sampleEngines() {
		list = append(list,
			call{"EngineOK", false, func() []any { return oneAnswer(impl.EngineOK(e)) }},
			call{"ReplayLog", true, func() []any { return twoWithCode(impl.ReplayLog(e.Log)) }},
		)
		for _, m := range append(someMutations("news"), mutationOfBytes(impl.MaxRecord+1)) {
			list = append(list, call{"Commit", false, func() []any { return withCode(impl.Commit(e, m)) }})
			for _, keep := range []int{math.MinInt, 0, 20, math.MaxInt} {
				list = append(list, call{"CommitCrash", true, func() []any { return withCode(impl.CommitCrash(e, m, keep)) }})
			}
		}
		for _, feed := range samplePolls() {
			for _, box := range []string{"news", "none", longText} {
				list = append(list, call{"Poll", false, func() []any { return twoWithCode(impl.Poll(e, box, feed)) }})
			}
		}
	}
	for _, boxes := range sampleStores() {
		for _, feed := range samplePolls() {
			for _, box := range []string{"first", "full", "none", longText} {
				list = append(list, call{"PollMutation", true, func() []any { return withCode(impl.PollMutation(boxes, box, feed)) }})
			}
		}
	}
	for _, l := range sampleLogs() {
		list = append(list, call{"ReplayLog", true, func() []any { return twoWithCode(impl.ReplayLog(l)) }})
	}
	return list
}

func callsOfSearches() []call {
	var list []call
	for _, set := range sampleSets() {
		list = append(list, call{"SetText", true, func() []any { return withCode(impl.SetText(set)) }})
		for _, n := range append(sampleNumbers(), impl.MaxNumber) {
			for _, top := range []int{0, 7, impl.MaxNumber, -1, impl.MaxNumber + 1, math.MaxInt, math.MinInt} {
				list = append(list, call{"SetHas", true, func() []any { return withCode(impl.SetHas(set, n, top)) }})
			}
		}
	}
	for _, words := range sampleWords() {
		list = append(list, call{"ReadSearch", true, func() []any { return withCode(impl.ReadSearch(words)) }})
	}
	for _, keys := range sampleSearches() {
		for _, m := range sampleStored() {
			for _, seq := range []int{1, impl.MaxNumber, 0, math.MinInt, math.MaxInt} {
				for _, tops := range [][2]int{{0, 0}, {impl.MaxNumber, 7}, {-1, 1}, {1, math.MaxInt}} {
					list = append(list, call{"MatchSearch", true, func() []any { return withCode(impl.MatchSearch(keys, m, seq, tops[0], tops[1])) }})
				}
			}
		}
	}
	return list
}

func callsOfCommands() []call {
	var list []call
	for _, c := range sampleCommands() {
		list = append(list, call{"CommandText", true, func() []any { return withCode(impl.CommandText(c)) }})
	}
	return list
}

// callsOfTexts is every call of chapters 1 to 16 that takes a text, and perhaps a number or another text, with every sample.
func callsOfTexts() []call {
	var list []call
	for _, x := range sampleTexts() {
		list = append(list,
			call{"NameOK", false, func() []any { return oneAnswer(impl.NameOK(x)) }},
			call{"CodeOf", false, func() []any { return oneAnswer(impl.CodeOf(x)) }},
			call{"ValidText", false, func() []any { return oneAnswer(impl.ValidText(x)) }},
			call{"RepairText", true, func() []any { return withCode(impl.RepairText(x)) }},
			call{"RunesOf", true, func() []any { return withCode(impl.RunesOf(x)) }},
			call{"ReadBase64", true, func() []any { return withCode(impl.ReadBase64(x)) }},
			call{"ReadQuoted", true, func() []any { return withCode(impl.ReadQuoted(x)) }},
			call{"LongestLine", false, func() []any { return oneAnswer(impl.LongestLine(x)) }},
			call{"HeaderNameOK", false, func() []any { return oneAnswer(impl.HeaderNameOK(x)) }},
			call{"SafeValue", false, func() []any { return oneAnswer(impl.SafeValue(x)) }},
			call{"EncodeWords", true, func() []any { return withCode(impl.EncodeWords(x)) }},
			call{"DecodeWords", true, func() []any { return withCode(impl.DecodeWords(x)) }},
			call{"UnfoldHeader", true, func() []any { return twoWithCode(impl.UnfoldHeader(x)) }},
			call{"ReadRfc3339", true, func() []any { return withCode(impl.ReadRfc3339(x)) }},
			call{"ReadRfc822", true, func() []any { return withCode(impl.ReadRfc822(x)) }},
			call{"XmlNameOK", false, func() []any { return oneAnswer(impl.XmlNameOK(x)) }},
			call{"EscapeXml", true, func() []any { return withCode(impl.EscapeXml(x)) }},
			call{"XmlTokens", true, func() []any { return tokensWithCode(impl.XmlTokens(x)) }},
			call{"XmlTokens, the place", false, func() []any { return placeAlone(impl.XmlTokens(x)) }},
			call{"AttrOf", true, func() []any { return withCode(impl.AttrOf(start("a", "", "none", "a", x, x, "b"), x)) }},
			call{"OneLine", true, func() []any { return withCode(impl.OneLine(x)) }},
			call{"ReadFeed", true, func() []any { return withCode(impl.ReadFeed(x)) }},
			call{"EntryOK", false, func() []any { return oneAnswer(impl.EntryOK(impl.Entry{Id: x, Content: x})) }},
			call{"FeedOK", false, func() []any { return oneAnswer(impl.FeedOK(impl.Feed{Title: x})) }},
			call{"MailOK", false, func() []any { return oneAnswer(impl.MailOK(x)) }},
			call{"RenderEntry", true, func() []any { return withCode(impl.RenderEntry(plainEntry, x)) }},
			call{"RenderEntry", true, func() []any { return withCode(impl.RenderEntry(impl.Entry{Id: x, Content: x}, "b")) }},
			call{"ParseMail", true, func() []any { return withCode(impl.ParseMail(x)) }},
			call{"MailEntry", true, func() []any { return withCode(impl.MailEntry(x)) }},
			call{"MailPart", true, func() []any { return withCode(impl.MailPart("X: y\r\n\r\na\r\n", x)) }},
			call{"MailLines", true, func() []any { return withCode(impl.MailLines(x)) }},
			call{"LogAppend", false, func() []any { return withCode(impl.LogAppend(impl.Log{Room: impl.MaxRoom, Data: "a"}, x)) }},
			call{"LogRecords", false, func() []any { return twoWithCode(impl.LogRecords(impl.Log{Room: impl.MaxRoom, Data: x})) }},
			call{"BoxAt", true, func() []any { return withCode(impl.BoxAt([]impl.Box{plainBox("a", 1)}, x)) }},
			call{"BoxOK", false, func() []any { return oneAnswer(impl.BoxOK(impl.Box{Name: x, Valid: 1, Next: 1})) }},
			call{"MutationOK", false, func() []any { return oneAnswer(impl.MutationOK(impl.Mutation{Kind: impl.MuBox, Box: x})) }},
			call{"ApplyMutation", false, func() []any {
				return withCode(impl.ApplyMutation([]impl.Box{plainBox("a", 1)}, impl.Mutation{Kind: impl.MuAdd, Box: "a", Items: []impl.Item{{Key: x, Text: x}}}))
			}},
			call{"PollMutation", true, func() []any { return withCode(impl.PollMutation([]impl.Box{plainBox("a", 1)}, "a", x)) }},
			call{"Poll", false, func() []any { return twoWithCode(impl.Poll(engineOf(impl.MaxRoom, madeBox("a")), "a", x)) }},
			call{"Poll", false, func() []any { return twoWithCode(impl.Poll(engineOf(impl.MaxRoom, madeBox("a")), x, "<feed/>")) }},
			call{"ReplayLog", true, func() []any { return twoWithCode(impl.ReplayLog(impl.Log{Room: impl.MaxRoom, Data: x})) }},
			call{"ReadSet", true, func() []any { return withCode(impl.ReadSet(x)) }},
			call{"ReadFlags", true, func() []any { return withCode(impl.ReadFlags(x)) }},
			call{"ReadSearch", true, func() []any { return withCode(impl.ReadSearch([]string{"text", x, x})) }},
			call{"TakeCommand", false, func() []any { return twoWithCode(impl.TakeCommand(x)) }},
			call{"ParseCommand", true, func() []any { return withCode(impl.ParseCommand(x)) }},
			call{"QuoteText", true, func() []any { return withCode(impl.QuoteText(x)) }},
			call{"CommandText", true, func() []any {
				return withCode(impl.CommandText(impl.Command{Tag: "a", Name: "X", Args: []string{x, "b"}}))
			}},
			call{"CommandText", true, func() []any { return withCode(impl.CommandText(impl.Command{Tag: x, Name: x})) }},
			call{"ListWords", true, func() []any { return withCode(impl.ListWords(x)) }},
			call{"FetchText", true, func() []any {
				return twoWithCode(impl.FetchText(impl.Stored{Uid: 1, Text: x}, 1, []string{"uid", "body[header]"}, true))
			}},
			call{"FetchText", true, func() []any { return twoWithCode(impl.FetchText(impl.Stored{Uid: 1}, 1, []string{x}, true)) }},
			call{"ImapOK", false, func() []any { return oneAnswer(impl.ImapOK(selectedOf(x, true))) }},
			call{"ImapStep", true, func() []any {
				got, next, said, code := impl.ImapStep(impl.Engine{}, impl.NewImap(), x)
				return []any{got, next, said, code}
			}},
			call{"ImapRun", true, func() []any { return twoWithCode(impl.ImapRun(impl.Engine{}, []string{"a login me feed", x})) }},
			call{"DotStuff", true, func() []any { return withCode(impl.DotStuff(x)) }},
			call{"DotStuff", true, func() []any { return withCode(impl.DotStuff(x + "\r\n.\r\n")) }},
			call{"DotUnstuff", true, func() []any { return withCode(impl.DotUnstuff(x)) }},
			call{"DotUnstuff", true, func() []any { return withCode(impl.DotUnstuff(x + "\r\n.\r\n")) }},
			call{"OverLine", true, func() []any { return withCode(impl.OverLine(impl.Stored{Uid: 1, Text: x})) }},
			call{"NntpStep", true, func() []any { return twoWithCode(impl.NntpStep(nil, impl.Nntp{}, x)) }},
			call{"NntpStep", true, func() []any { return twoWithCode(impl.NntpStep(nil, impl.Nntp{Group: x, Now: 1}, "stat")) }},
			call{"NntpRun", true, func() []any { return withCode(impl.NntpRun(nil, []string{x, "group " + x, "over " + x})) }},
			call{"WorldRun", true, func() []any {
				return twoWithCode(impl.WorldRun(1000, []impl.Event{{Kind: 6, Box: x}, {Kind: 6, Box: "a"}, {Kind: 5, Box: "a", Data: x}, {Kind: 5, Box: x, Data: x}, {Kind: 7, Keep: 9, Box: x, Data: x}, {Kind: 7, Keep: 9, Box: "a", Data: x}}))
			}},
			call{"WorldRun", true, func() []any {
				return twoWithCode(impl.WorldRun(1000, []impl.Event{{Kind: 1}, {Kind: 3, Data: x}, {Kind: 3, Data: x}, {Kind: 2, Conn: 1}, {Kind: 3, Conn: 1, Data: x}, {Kind: 3, Conn: 1, Data: x}}))
			}},
			call{"SayAll", true, func() []any { return withCode(impl.SayAll([]string{"a", x}, 1)) }},
			call{"SayAll", true, func() []any { return withCode(impl.SayAll([]string{"a", x}, 2)) }},
			call{"MatchSearch", true, func() []any {
				return withCode(impl.MatchSearch([]impl.SearchKey{wordKey("TEXT", x), wordKey("FROM", "a")}, impl.Stored{Text: x}, 1, 1, 1))
			}},
		)
		for _, part := range []string{"", "HEADER", "TEXT", "text", longText} {
			list = append(list, call{"MailPart", true, func() []any { return withCode(impl.MailPart(x, part)) }})
		}
		for _, m := range sampleMails() {
			list = append(list, call{"FieldOf", true, func() []any { return withCode(impl.FieldOf(m, x)) }})
		}
		for _, y := range sampleTexts() {
			list = append(list, call{"FoldHeader", true, func() []any { return withCode(impl.FoldHeader(x, y)) }})
		}
		for _, n := range sampleNumbers() {
			list = append(list, call{"CutRunes", true, func() []any { return withCode(impl.CutRunes(x, n)) }})
		}
	}
	return list
}

// allCalls is every call of the chapters that are built, with every sample.
func allCalls() []call {
	list := slices.Concat(callsOfTexts(), callsOfLogs(), callsOfBoxes(), callsOfEngines(), callsOfSearches(), callsOfCommands(), callsOfSessions(), callsOfReaders(), callsOfWorlds(), callsOfConsoles())
	for _, n := range sampleNumbers() {
		list = append(list,
			call{"CodeWord", false, func() []any { return oneAnswer(impl.CodeWord(n)) }},
			call{"RuneSize", false, func() []any { return oneAnswer(impl.RuneSize(n)) }},
			call{"XmlRune", false, func() []any { return oneAnswer(impl.XmlRune(n)) }},
			call{"CivilOf", true, func() []any { return withCode(impl.CivilOf(n)) }},
			call{"WeekdayOf", true, func() []any { return withCode(impl.WeekdayOf(n)) }},
			call{"Rfc3339Text", true, func() []any { return withCode(impl.Rfc3339Text(n)) }},
			call{"Rfc822Text", true, func() []any { return withCode(impl.Rfc822Text(n)) }},
			call{"NewLog", true, func() []any { return withCode(impl.NewLog(n)) }},
			call{"NewEngine", true, func() []any { return withCode(impl.NewEngine(n)) }},
			call{"NewWorld", true, func() []any { return withCode(impl.NewWorld(n)) }},
			call{"FlagsText", true, func() []any { return withCode(impl.FlagsText(n)) }},
		)
	}
	for _, c := range sampleCivils() {
		list = append(list,
			call{"CivilOK", false, func() []any { return oneAnswer(impl.CivilOK(c)) }},
			call{"StampOf", true, func() []any { return withCode(impl.StampOf(c)) }},
		)
	}
	for _, tokens := range sampleTokens() {
		list = append(list, call{"TokensText", true, func() []any { return withCode(impl.TokensText(tokens)) }})
		for _, x := range tokens[:min(len(tokens), 3)] {
			list = append(list, call{"AttrOf", true, func() []any { return withCode(impl.AttrOf(x, "b")) }})
		}
	}
	for _, f := range sampleFeeds() {
		list = append(list,
			call{"FeedOK", false, func() []any { return oneAnswer(impl.FeedOK(f)) }},
			call{"FeedKeys", true, func() []any { return withCode(impl.FeedKeys(f)) }},
			call{"FeedText", true, func() []any { return withCode(impl.FeedText(f)) }},
		)
		for _, e := range f.Entries[:min(len(f.Entries), 3)] {
			list = append(list,
				call{"EntryOK", false, func() []any { return oneAnswer(impl.EntryOK(e)) }},
				call{"RenderEntry", true, func() []any { return withCode(impl.RenderEntry(e, "news")) }},
			)
		}
	}
	for _, runes := range sampleLists() {
		list = append(list, call{"TextOfRunes", true, func() []any { return withCode(impl.TextOfRunes(runes)) }})
	}
	for _, b := range sampleBytes() {
		list = append(list,
			call{"Base64Text", true, func() []any { return withCode(impl.Base64Text(b)) }},
			call{"QuotedText", true, func() []any { return withCode(impl.QuotedText(b)) }},
			call{"Check32", false, func() []any { return oneAnswer(impl.Check32(b)) }},
			call{"ReadMutation", true, func() []any { return withCode(impl.ReadMutation(b)) }},
		)
	}
	return list
}

// allAnswers is what every call answers, asked from the last one on if back.
func allAnswers(calls []call, back bool) [][]any {
	answers := make([][]any, len(calls))
	for i := range calls {
		if back {
			i = len(calls) - 1 - i
		}
		answers[i] = calls[i].ask()
	}
	return answers
}

// alike holds two answers against each other; an empty list and nil are the same value.
func alike(a, b reflect.Value) bool {
	switch {
	case a.Kind() == reflect.Interface:
		return a.Elem().Type() == b.Elem().Type() && alike(a.Elem(), b.Elem())
	case a.Kind() == reflect.Struct:
		for i := range a.NumField() {
			if !alike(a.Field(i), b.Field(i)) {
				return false
			}
		}
		return true
	case a.Kind() == reflect.Slice && a.Len() != b.Len():
		return false
	case a.Kind() == reflect.Slice:
		for i := range a.Len() {
			if !alike(a.Index(i), b.Index(i)) {
				return false
			}
		}
		return true
	}
	return a.Equal(b)
}

func checkAlike(t *testing.T, calls []call, a, b [][]any, why string) {
	t.Helper()
	for i, c := range calls {
		if !alike(reflect.ValueOf(a[i]), reflect.ValueOf(b[i])) {
			t.Errorf("%s, call %d: %s", c.name, i, why)
		}
	}
}

func TestAlikeAnswers(t *testing.T) {
	calls := allCalls()
	first := allAnswers(calls, false)
	checkAlike(t, calls, first, allAnswers(calls, false), "alike arguments had other answers the second time")
	checkAlike(t, calls, first, allAnswers(calls, true), "the answer hangs on what was called ahead")
	again := make(chan [][]any)
	for range 4 {
		go func() { again <- allAnswers(calls, true) }()
	}
	for range 4 {
		checkAlike(t, calls, first, <-again, "the answer hangs on what is called beside")
	}
}

// A code other than 0 leaves all else zero; each code is one of the table.
func TestZeroBesideACode(t *testing.T) {
	for i, c := range allCalls() {
		if !c.coded {
			continue
		}
		answer := c.ask()
		code := answer[len(answer)-1].(int)
		if impl.CodeWord(code) == "" {
			t.Errorf("%s, call %d: the code %d", c.name, i, code)
		}
		for _, v := range answer[:len(answer)-1] {
			x := reflect.ValueOf(v)
			if code != impl.OK && !alike(x, reflect.Zero(x.Type())) {
				t.Errorf("%s, call %d: %d stands beside something", c.name, i, code)
			}
		}
	}
}

func TestTextOfMaxText(t *testing.T) {
	wide := strings.Repeat("\U0001f600", impl.MaxText/4)
	for _, x := range []string{fullText, wide} {
		if !impl.ValidText(x) {
			t.Error("ValidText of MaxText bytes is false")
		}
		if s, code := impl.RepairText(x); s != x || code != impl.OK {
			t.Error("RepairText of MaxText bytes:", code)
		}
		for _, n := range []int{impl.MaxText, impl.MaxText + 1, math.MaxInt} {
			if s, code := impl.CutRunes(x, n); s != x || code != impl.OK {
				t.Error("CutRunes of MaxText bytes:", n, code)
			}
		}
	}
	if list, code := impl.RunesOf(fullText); len(list) != impl.MaxText || code != impl.OK {
		t.Error("RunesOf of MaxText bytes:", len(list), code)
	}
	if s, code := impl.CutRunes(wide, impl.MaxText-1); s != wide[:impl.MaxText-4] || code != impl.OK {
		t.Error("CutRunes one byte short of MaxText:", len(s), code)
	}
	// What is repaired may be longer than what may be handed in.
	s, code := impl.RepairText(strings.Repeat("\xff", impl.MaxText))
	if s != strings.Repeat("\ufffd", impl.MaxText) || code != impl.OK {
		t.Error("RepairText of MaxText wrong bytes:", len(s), code)
	}
}

// ErrLong comes ahead of all other codes; without a code the answer is zero.
func TestTextBeyondMaxText(t *testing.T) {
	for _, x := range []string{longText, fullText + "\xff", "\xff" + fullText, endlessText} {
		if impl.ValidText(x) {
			t.Error("ValidText beyond MaxText")
		}
		if s, code := impl.RepairText(x); s != "" || code != impl.ErrLong {
			t.Error("RepairText beyond MaxText:", len(s), code)
		}
		if list, code := impl.RunesOf(x); len(list) != 0 || code != impl.ErrLong {
			t.Error("RunesOf beyond MaxText:", len(list), code)
		}
		for _, n := range []int{-1, 0, 1, math.MaxInt, math.MinInt} {
			if s, code := impl.CutRunes(x, n); s != "" || code != impl.ErrLong {
				t.Error("CutRunes beyond MaxText:", n, len(s), code)
			}
		}
	}
}

func TestListOfMaxList(t *testing.T) {
	list := slices.Repeat([]int{0x20ac}, impl.MaxList)
	if s, code := impl.TextOfRunes(list); s != strings.Repeat("\u20ac", impl.MaxList) || code != impl.OK {
		t.Error("TextOfRunes of MaxList:", len(s), code)
	}
	if back, code := impl.RunesOf(strings.Repeat("\u20ac", impl.MaxList)); !slices.Equal(back, list) || code != impl.OK {
		t.Error("RunesOf of MaxList runes:", len(back), code)
	}
	list[impl.MaxList-1] = 0xd800
	if s, code := impl.TextOfRunes(list); s != "" || code != impl.ErrRange {
		t.Error("TextOfRunes of MaxList with a wrong last one:", len(s), code)
	}
	for _, r := range []int{'a', -1, 0xd800} {
		if s, code := impl.TextOfRunes(slices.Repeat([]int{r}, impl.MaxList+1)); s != "" || code != impl.ErrLong {
			t.Error("TextOfRunes beyond MaxList:", r, len(s), code)
		}
	}
}

// checkStays asks that nothing is written into a list that is handed in, nor behind its end.
func checkStays[T comparable](t *testing.T, name string, list []T, ask func([]T)) {
	t.Helper()
	room := append(slices.Clone(list), make([]T, 8)...)
	before := slices.Clone(room)
	ask(room[:len(list)])
	if !slices.Equal(room, before) {
		t.Errorf("%s wrote into a list of %d, or behind it", name, len(list))
	}
}

func TestListsStay(t *testing.T) {
	for _, list := range sampleLists() {
		checkStays(t, "TextOfRunes", list, func(list []int) { impl.TextOfRunes(list) })
	}
	for _, b := range sampleBytes() {
		checkStays(t, "Base64Text", b, func(b []byte) { impl.Base64Text(b) })
		checkStays(t, "QuotedText", b, func(b []byte) { impl.QuotedText(b) })
		checkStays(t, "Check32", b, func(b []byte) { impl.Check32(b) })
		checkStays(t, "ReadMutation", b, func(b []byte) { impl.ReadMutation(b) })
	}
	for _, m := range sampleMails() {
		for _, name := range []string{"", "subject", "A", longText} {
			checkStays(t, "FieldOf", m.Fields, func(list []impl.Field) { impl.FieldOf(impl.Mail{Fields: list, Body: m.Body}, name) })
		}
	}
	for _, f := range sampleFeeds() {
		for name, ask := range map[string]func(impl.Feed){"FeedOK": func(f impl.Feed) { impl.FeedOK(f) }, "FeedKeys": func(f impl.Feed) { impl.FeedKeys(f) }, "FeedText": func(f impl.Feed) { impl.FeedText(f) }} {
			checkStays(t, name, f.Entries, func(list []impl.Entry) { ask(impl.Feed{Atom: f.Atom, Title: f.Title, Entries: list}) })
		}
	}
	for _, set := range sampleSets() {
		checkStays(t, "SetText", set, func(list []impl.Range) { impl.SetText(list) })
		checkStays(t, "SetHas", set, func(list []impl.Range) { impl.SetHas(list, 7, 7) })
		checkStays(t, "MatchSearch", set, func(list []impl.Range) {
			impl.MatchSearch([]impl.SearchKey{{Kind: "UID", Set: list}, {Kind: "SET", Set: list}}, impl.Stored{Uid: 7}, 7, 7, 7)
		})
	}
	for _, words := range sampleWords() {
		checkStays(t, "ReadSearch", words, func(list []string) { impl.ReadSearch(list) })
	}
	for _, c := range sampleCommands() {
		checkStays(t, "CommandText", c.Args, func(list []string) { impl.CommandText(impl.Command{Tag: c.Tag, Name: c.Name, Args: list}) })
	}
	for _, view := range sampleViews() {
		checkStays(t, "ViewUpdates", view, func(list []int) { impl.ViewUpdates(boxOf("news", 1, 60, upTo(3, 32)...), list) })
		checkStays(t, "ImapOK", view, func(list []int) { impl.ImapOK(selectedOf("news", true, list...)) })
	}
	for _, items := range sampleItems() {
		for _, withUid := range []bool{false, true} {
			checkStays(t, "FetchText", items, func(list []string) {
				impl.FetchText(impl.Stored{Uid: 1, Text: "X: y\r\n\r\nbody\r\n"}, 1, list, withUid)
			})
		}
	}
	for _, lines := range [][]string{nil, sampleLines(), append([]string{"a login me feed", "a select news"}, sampleLines()[:17]...), make([]string, 61)} {
		checkStays(t, "ImapRun", lines, func(list []string) { impl.ImapRun(newsEngine(1000), list) })
	}
	for _, lines := range [][]string{nil, sampleNews(), {"group news", "over 1-", "quit", "list"}, make([]string, 61)} {
		checkStays(t, "NntpRun", lines, func(list []string) { impl.NntpRun(newsBoxes(), list) })
	}
	for _, events := range sampleRuns() {
		checkStays(t, "WorldRun", events, func(list []impl.Event) { impl.WorldRun(5000, list) })
	}
	for _, lines := range append(sampleWords(), sampleLines()[:17], sampleNews()[:24]) {
		checkStays(t, "SayAll", lines, func(list []string) { impl.SayAll(list, impl.GwImap) })
		checkStays(t, "SayAll", lines, func(list []string) { impl.SayAll(list, impl.GwNntp) })
	}
}

func TestAnswersAreNewMemory(t *testing.T) {
	const x = "a\u00e4\u20ac"
	list, _ := impl.RunesOf(x)
	other, _ := impl.RunesOf(x)
	for i := range list {
		list[i] = 0
	}
	_ = append(list, 0)
	again, _ := impl.RunesOf(x)
	want := []int{'a', 0xe4, 0x20ac}
	if !slices.Equal(other, want) || !slices.Equal(again, want) {
		t.Errorf("answers of RunesOf share memory: %x %x", other, again)
	}
	runes := slices.Clone(want)
	s, _ := impl.TextOfRunes(runes)
	clear(runes)
	if s != x {
		t.Errorf("an answer of TextOfRunes follows its argument: %q", s)
	}
	for _, x := range []string{"a", "ab\u00e4", strings.Repeat("plain words ", 100)} {
		x = strings.Clone(x)
		repaired, _ := impl.RepairText(x)
		whole, _ := impl.CutRunes(x, len(x))
		part, _ := impl.CutRunes(x, len(x)-1)
		for name, s := range map[string]string{"RepairText": repaired, "CutRunes, whole": whole, "CutRunes, a part": part} {
			if shareMemory(x, s) {
				t.Errorf("%s of %q shares memory with it", name, brief(x))
			}
		}
	}
}

func TestBytesAreNewMemory(t *testing.T) {
	plain := []byte("plain words")
	encoded, _ := impl.Base64Text(plain)
	quoted, _ := impl.QuotedText(plain)
	clear(plain)
	if encoded != "cGxhaW4gd29yZHM=" || quoted != "plain words" {
		t.Errorf("an answer follows its argument: %q, %q", encoded, quoted)
	}
	for name, read := range map[string]func(string) ([]byte, int){"ReadBase64": impl.ReadBase64, "ReadQuoted": impl.ReadQuoted} {
		for _, x := range []string{"abcd", strings.Repeat("abcd", 100)} {
			x = strings.Clone(x)
			first, _ := read(x)
			second, _ := read(x)
			if shareMemory(x, unsafe.String(unsafe.SliceData(first), len(first))) {
				t.Errorf("%s of %q shares memory with it", name, brief(x))
			}
			want := slices.Clone(second)
			clear(first)
			_ = append(first, 0)
			if again, _ := read(x); !slices.Equal(second, want) || !slices.Equal(again, want) {
				t.Errorf("answers of %s share memory", name)
			}
		}
	}
}

func TestFieldsAreNewMemory(t *testing.T) {
	name, value := strings.Clone("Subject"), strings.Clone("plain =?utf-8?B?w6Q=?= words")
	coded := strings.Clone("plain words")
	field, _ := impl.FoldHeader(name, value)
	lone, _ := impl.FoldHeader(name, "")
	unfoldedName, unfoldedValue, _ := impl.UnfoldHeader(field)
	encodedText, _ := impl.EncodeWords(coded)
	plain, _ := impl.DecodeWords(coded)
	one, _ := impl.DecodeWords(coded[:5])
	part, _ := impl.DecodeWords(value)
	for answer, texts := range map[string][]string{
		"FoldHeader": {field, name, value}, "FoldHeader, of an empty value": {lone, name},
		"UnfoldHeader, the name": {unfoldedName, field}, "UnfoldHeader, the value": {unfoldedValue, field}, "UnfoldHeader, both": {unfoldedName, unfoldedValue},
		"EncodeWords": {encodedText, coded}, "DecodeWords": {plain, coded}, "DecodeWords, of one word": {one, coded}, "DecodeWords, of encoded ones": {part, value},
	} {
		for _, x := range texts[1:] {
			if texts[0] == "" || shareMemory(x, texts[0]) {
				t.Errorf("%s: %q is empty, or shares memory with %q", answer, texts[0], x)
			}
		}
	}
}

// copied is a list of tokens that shares no list with another one.
func copied(list []impl.Token) []impl.Token {
	list = slices.Clone(list)
	for i := range list {
		list[i].Attrs = slices.Clone(list[i].Attrs)
	}
	return list
}

func TestTokensStay(t *testing.T) {
	behind := impl.Attr{Name: "behind", Value: "behind"}
	for _, list := range sampleTokens() {
		room := append(copied(list), chars("behind"))
		for i := range room {
			room[i].Attrs = append(room[i].Attrs, behind)
		}
		before := copied(room)
		asked := room[:len(list)]
		for i := range asked {
			asked[i].Attrs = asked[i].Attrs[:len(list[i].Attrs)]
		}
		impl.TokensText(asked)
		for _, x := range asked {
			impl.AttrOf(x, "b")
		}
		for i := range asked {
			asked[i].Attrs = asked[i].Attrs[:len(list[i].Attrs)+1]
		}
		if !sameTokens(room, before) {
			t.Errorf("something was written into a list of %d, or behind it", len(list))
		}
	}
}

func TestTokensAreNewMemory(t *testing.T) {
	for _, x := range []string{
		"<a b='1' c=\"2\">x<b d='3'/><![CDATA[y]]>z</a>", "<a><![CDATA[plain words]]></a>", "<a><![CDATA[one]]><b/>\r<![CDATA[two]]></a>", "<" + strings.Repeat("n", 40) + " b='" + strings.Repeat("v", 100) + "'/>",
	} {
		x = strings.Clone(x)
		first, _, _ := impl.XmlTokens(x)
		second, _, _ := impl.XmlTokens(x)
		want := copied(second)
		text, _ := impl.TokensText(first)
		pieces := []string{text}
		for _, y := range first {
			pieces = append(pieces, y.Name, y.Text)
			for _, a := range y.Attrs {
				value, _ := impl.AttrOf(y, a.Name)
				if shareMemory(a.Value, value) {
					t.Errorf("AttrOf of %q shares memory with its token", x)
				}
				pieces = append(pieces, a.Name, a.Value)
			}
		}
		for _, piece := range pieces {
			if shareMemory(x, piece) {
				t.Errorf("%q shares memory with %q", piece, x)
			}
		}
		for i := range first {
			_ = append(first[i].Attrs, impl.Attr{Name: "other"})
			clear(first[i].Attrs)
			clear(first[i].Attrs[:cap(first[i].Attrs)])
			for j := range first[i+1:] {
				if !sameTokens(first[i+1+j:i+2+j], want[i+1+j:i+2+j]) {
					t.Errorf("lists of one answer share memory: %q", x)
				}
			}
		}
		clear(first)
		if again, _, _ := impl.XmlTokens(x); !sameTokens(second, want) || !sameTokens(again, want) {
			t.Errorf("answers of XmlTokens share memory: %q", x)
		}
	}
	escaped := strings.Clone("plain words")
	if s, _ := impl.EscapeXml(escaped); s != escaped || shareMemory(s, escaped) {
		t.Errorf("EscapeXml of %q shares memory with it, or is %q", escaped, s)
	}
}

// textsOf is each text of a feed.
func textsOf(f impl.Feed) []string {
	list := []string{f.Title}
	for _, e := range f.Entries {
		list = append(list, e.Id, e.Title, e.Link, e.Author, e.Content)
	}
	return list
}

func checkNew(t *testing.T, name string, answers, arguments []string) {
	t.Helper()
	for _, answer := range answers {
		for _, x := range arguments {
			if shareMemory(answer, x) {
				t.Errorf("%s: %q shares memory with %q", name, brief(answer), brief(x))
			}
		}
	}
}

func TestFeedsAreNewMemory(t *testing.T) {
	for _, x := range []string{"a", "plain words", "a  b", " a ", strings.Repeat("word ", 100)} {
		x = strings.Clone(x)
		line, _ := impl.OneLine(x)
		checkNew(t, "OneLine", []string{line}, []string{x})
	}
	for _, atom := range []bool{false, true} {
		e := impl.Entry{Id: strings.Clone("an id"), Title: strings.Clone("a title"), Link: strings.Clone("a link"), Author: strings.Clone("an author"), Content: strings.Clone("a content")}
		f := impl.Feed{Atom: atom, Title: strings.Clone("title"), Entries: []impl.Entry{e, {Id: strings.Clone("other")}}}
		text, _ := impl.FeedText(f)
		keys, _ := impl.FeedKeys(f)
		checkNew(t, "FeedText", []string{text}, textsOf(f))
		checkNew(t, "FeedKeys", keys, textsOf(f))
		clear(keys)
		_ = append(keys, "another")
		if again, code := impl.FeedKeys(f); !slices.Equal(again, []string{"an id", "other"}) || code != impl.OK {
			t.Errorf("answers of FeedKeys share memory: %q, %d", again, code)
		}
		plain := strings.NewReplacer("<content>", "<content><![CDATA[", "</content>", "]]></content>", "<description>", "<description><![CDATA[", "</description>", "]]></description>").Replace(text)
		for _, text := range []string{text, plain} {
			first, _ := impl.ReadFeed(text)
			second, _ := impl.ReadFeed(text)
			checkNew(t, "ReadFeed", textsOf(first), []string{text})
			clear(first.Entries)
			_ = append(first.Entries, plainEntry)
			if again, code := impl.ReadFeed(text); !sameFeed(second, f) || !sameFeed(again, f) || code != impl.OK {
				t.Errorf("answers of ReadFeed share memory: %s, %s, %d", told(second), told(again), code)
			}
		}
	}
}

func TestMailsAreNewMemory(t *testing.T) {
	e := impl.Entry{Id: strings.Clone("an id"), Title: strings.Clone("a title"), Link: strings.Clone("a link"), Author: strings.Clone("\u00e4"), Content: strings.Clone("a content")}
	box := strings.Clone("news")
	text, _ := impl.RenderEntry(e, box)
	checkNew(t, "RenderEntry", []string{text}, append(textsOf(impl.Feed{Entries: []impl.Entry{e}}), box))
	back, _ := impl.MailEntry(text)
	checkNew(t, "MailEntry", textsOf(impl.Feed{Entries: []impl.Entry{back}}), []string{text})
	for _, part := range []string{"", "HEADER", "TEXT"} {
		x, _ := impl.MailPart(text, part)
		checkNew(t, "MailPart", []string{x}, []string{text})
	}
	first, _ := impl.ParseMail(text)
	second, _ := impl.ParseMail(text)
	answers := []string{first.Body}
	for _, f := range first.Fields {
		value, _ := impl.FieldOf(first, f.Name)
		checkNew(t, "FieldOf", []string{value}, []string{f.Value})
		answers = append(answers, f.Name, f.Value)
	}
	checkNew(t, "ParseMail", answers, []string{text})
	clear(first.Fields)
	_ = append(first.Fields, impl.Field{Name: "other"})
	if want, _ := mailOf(text); !sameMail(second, want) {
		t.Errorf("answers of ParseMail share memory: %s", told(second))
	}
}

func TestLogsAreNewMemory(t *testing.T) {
	for _, l := range sampleLogs() {
		l.Data = strings.Clone(l.Data)
		for _, x := range []string{"", "a", strings.Repeat("r", 100), fullText} {
			x = strings.Clone(x)
			got, _ := impl.LogAppend(l, x)
			checkNew(t, "LogAppend", []string{got.Data}, []string{l.Data, x})
		}
		synced, _ := impl.LogSync(l)
		repaired, _ := impl.LogRepair(l)
		checkNew(t, "LogSync", []string{synced.Data}, []string{l.Data})
		checkNew(t, "LogRepair", []string{repaired.Data}, []string{l.Data})
		for _, keep := range []int{-1, 0, 5, math.MaxInt} {
			crashed, _ := impl.LogCrash(l, keep)
			checkNew(t, "LogCrash", []string{crashed.Data}, []string{l.Data})
		}
		first, _, _ := impl.LogRecords(l)
		second, _, _ := impl.LogRecords(l)
		checkNew(t, "LogRecords", first, []string{l.Data})
		want := slices.Clone(second)
		clear(first)
		_ = append(first, "another")
		if again, _, _ := impl.LogRecords(l); !slices.Equal(second, want) || !slices.Equal(again, want) {
			t.Errorf("answers of LogRecords share memory: %s", told(l))
		}
	}
}

// copiedBoxes is boxes that share no list with others.
func copiedBoxes(list []impl.Box) []impl.Box {
	list = slices.Clone(list)
	for i := range list {
		list[i].Mails = slices.Clone(list[i].Mails)
		list[i].Keys = slices.Clone(list[i].Keys)
	}
	return list
}

// widened is boxes, and all their lists, with something behind their ends.
func widened(list []impl.Box) []impl.Box {
	list = append(copiedBoxes(list), impl.Box{Name: "behind"})
	for i := range list {
		list[i].Mails = append(list[i].Mails, impl.Stored{Text: "behind"}, impl.Stored{})
		list[i].Keys = append(list[i].Keys, "behind", "")
	}
	return list
}

// narrowed is widened boxes as they are handed in, in the same memory.
func narrowed(list []impl.Box) []impl.Box {
	list = slices.Clone(list)
	for i, b := range list {
		list[i].Mails = b.Mails[:len(b.Mails)-2]
		list[i].Keys = b.Keys[:len(b.Keys)-2]
	}
	return list[:len(list)-1]
}

func TestBoxesStay(t *testing.T) {
	for _, list := range sampleStores() {
		room := widened(list)
		before := copiedBoxes(room)
		asked := narrowed(room)
		whole := slices.Clone(asked[:len(list)+1])
		for _, m := range sampleMutations() {
			items := append(slices.Clone(m.Items), impl.Item{Key: "behind"})
			m.Items = items[:len(items)-1]
			had := slices.Clone(items)
			impl.ApplyMutation(asked, m)
			impl.MutationOK(m)
			impl.MutationBytes(m)
			if !slices.Equal(items, had) {
				t.Errorf("something was written into the items of %s, or behind them", told(m))
			}
		}
		impl.StoreOK(asked)
		impl.SameStore(asked, asked)
		impl.BoxAt(asked, "first")
		for _, b := range asked[:min(len(asked), 3)] {
			impl.BoxOK(b)
			impl.StoredAt(b, 1)
			impl.CountFlag(b, 1)
		}
		if !sameAnswer(room, before) || !sameAnswer(asked[:len(list)+1], whole) {
			t.Errorf("something was written into %s, or behind them", told(list))
		}
	}
}

// textsOfBoxes is each text of boxes.
func textsOfBoxes(list ...impl.Box) []string {
	var texts []string
	for _, b := range list {
		texts = append(append(texts, b.Name), b.Keys...)
		for _, m := range b.Mails {
			texts = append(texts, m.Text)
		}
	}
	return texts
}

// freshBoxes is boxes of which no text shares memory with another.
func freshBoxes(list []impl.Box) []impl.Box {
	list = copiedBoxes(list)
	for i, b := range list {
		list[i].Name = strings.Clone(b.Name)
		for j := range b.Mails {
			b.Mails[j].Text = strings.Clone(b.Mails[j].Text)
		}
		for j := range b.Keys {
			b.Keys[j] = strings.Clone(b.Keys[j])
		}
	}
	return list
}

func TestBoxesAreNewMemory(t *testing.T) {
	for _, list := range someStores() {
		list = freshBoxes(list)
		for _, m := range append(sampleMutations(), impl.Mutation{Kind: impl.MuAdd, Box: strings.Clone("first"), Items: []impl.Item{{Key: strings.Clone("a key"), Text: strings.Clone("a text")}}}, madeBox(strings.Clone("a_box"))) {
			got, _ := impl.ApplyMutation(list, m)
			arguments := append(textsOfBoxes(list...), m.Box)
			for _, x := range m.Items {
				arguments = append(arguments, x.Key, x.Text)
			}
			checkNew(t, "ApplyMutation", textsOfBoxes(got...), arguments)
			// What is written into one list of an answer, or behind it, is in no other.
			before, want := copiedBoxes(list), copiedBoxes(got)
			for i := range got {
				_ = append(got[i].Mails, impl.Stored{Uid: 77})
				_ = append(got[i].Keys, "other")
				if !sameAnswer(got[i:], want[i:]) {
					t.Errorf("lists of one answer of ApplyMutation share memory: %s", told(m))
				}
				clear(got[i].Mails[:cap(got[i].Mails)])
				clear(got[i].Keys[:cap(got[i].Keys)])
				if !sameAnswer(got[i+1:], want[i+1:]) {
					t.Errorf("lists of one answer of ApplyMutation share memory: %s", told(m))
				}
			}
			clear(got)
			if again, _ := impl.ApplyMutation(list, m); !sameAnswer(list, before) || !sameAnswer(again, want) {
				t.Errorf("answers of ApplyMutation share memory: %s", told(m))
			}
		}
		for _, b := range list {
			want := copiedBoxes([]impl.Box{b})[0]
			got, _ := impl.BoxAt(list, b.Name)
			checkNew(t, "BoxAt", textsOfBoxes(got), textsOfBoxes(list...))
			clear(got.Mails)
			clear(got.Keys)
			if !sameAnswer(b, want) {
				t.Errorf("BoxAt shares memory with its argument: %s", told(want))
			}
			for _, m := range b.Mails {
				mail, _ := impl.StoredAt(b, m.Uid)
				checkNew(t, "StoredAt", []string{mail.Text}, []string{m.Text})
			}
		}
	}
}

func TestMutationsAreNewMemory(t *testing.T) {
	for _, m := range rightMutations() {
		b, _ := impl.MutationBytes(m)
		other, _ := impl.MutationBytes(m)
		first, _ := impl.ReadMutation(b)
		want := slices.Clone(b)
		clear(b)
		if !slices.Equal(other, want) || !sameAnswer(first, m) {
			t.Errorf("answers of MutationBytes share memory, or ReadMutation does with its argument: %s", told(m))
		}
		second, _ := impl.ReadMutation(want)
		clear(first.Items)
		if !sameAnswer(second, m) {
			t.Errorf("answers of ReadMutation share memory: %s", told(m))
		}
	}
}

func TestEnginesStay(t *testing.T) {
	for _, e := range sampleEngines() {
		room := widened(e.Boxes)
		before := copiedBoxes(room)
		asked := narrowed(room)
		whole := slices.Clone(asked[:len(e.Boxes)+1])
		engine := impl.Engine{Log: e.Log, Boxes: asked}
		for _, m := range someMutations("news") {
			items := append(slices.Clone(m.Items), impl.Item{Key: "behind"})
			m.Items = items[:len(items)-1]
			had := slices.Clone(items)
			impl.Commit(engine, m)
			impl.CommitCrash(engine, m, 10)
			impl.CommitCrash(engine, m, math.MaxInt)
			if !slices.Equal(items, had) {
				t.Errorf("something was written into the items of %s, or behind them", told(m))
			}
		}
		for _, feed := range samplePolls() {
			impl.PollMutation(asked, "news", feed)
			impl.Poll(engine, "news", feed)
		}
		impl.EngineOK(engine)
		if !sameAnswer(room, before) || !sameAnswer(asked[:len(e.Boxes)+1], whole) {
			t.Errorf("something was written into %s, or behind its boxes", told(e))
		}
	}
}

// checkNewEngine asks that an answer shares nothing with an engine that was handed in, nor within itself, and says what it says still when it was asked again.
func checkNewEngine(t *testing.T, name string, e impl.Engine, arguments []string, ask func() impl.Engine) {
	t.Helper()
	got := ask()
	checkNew(t, name, append(textsOfBoxes(got.Boxes...), got.Log.Data), append(append(textsOfBoxes(e.Boxes...), e.Log.Data), arguments...))
	before, want := copiedBoxes(e.Boxes), copiedBoxes(got.Boxes)
	for i, b := range got.Boxes {
		_ = append(b.Mails, impl.Stored{Uid: 77})
		_ = append(b.Keys, "other")
		if !sameAnswer(got.Boxes[i:], want[i:]) {
			t.Errorf("lists of one answer of %s share memory", name)
		}
		clear(b.Mails[:cap(b.Mails)])
		clear(b.Keys[:cap(b.Keys)])
		if !sameAnswer(got.Boxes[i+1:], want[i+1:]) {
			t.Errorf("lists of one answer of %s share memory", name)
		}
	}
	clear(got.Boxes[:cap(got.Boxes)])
	if !sameAnswer(e.Boxes, before) || !sameAnswer(ask().Boxes, want) {
		t.Errorf("answers of %s share memory", name)
	}
}

func TestEnginesAreNewMemory(t *testing.T) {
	for _, e := range someEngines() {
		e.Log.Data, e.Boxes = strings.Clone(e.Log.Data), freshBoxes(e.Boxes)
		fresh := impl.Mutation{Kind: impl.MuAdd, Box: strings.Clone("news"), Items: []impl.Item{{Key: strings.Clone("a key"), Text: strings.Clone("a text")}}}
		for _, m := range append(someMutations("news"), fresh, madeBox(strings.Clone("a_box")), mutationOfBytes(impl.MaxRecord+1)) {
			texts := []string{m.Box}
			for _, x := range m.Items {
				texts = append(texts, x.Key, x.Text)
			}
			checkNewEngine(t, "Commit", e, texts, func() impl.Engine { got, _ := impl.Commit(e, m); return got })
			for _, keep := range []int{0, 20, math.MaxInt} {
				checkNewEngine(t, "CommitCrash", e, texts, func() impl.Engine { got, _ := impl.CommitCrash(e, m, keep); return got })
			}
		}
		for _, feed := range samplePolls() {
			for _, box := range []string{strings.Clone("news"), strings.Clone("none")} {
				checkNewEngine(t, "Poll", e, []string{box, feed}, func() impl.Engine { got, _, _ := impl.Poll(e, box, feed); return got })
				checkNewPoll(t, e.Boxes, box, feed)
			}
		}
		checkNewEngine(t, "ReplayLog", e, nil, func() impl.Engine { boxes, _, _ := impl.ReplayLog(e.Log); return impl.Engine{Boxes: boxes} })
	}
}

func checkNewPoll(t *testing.T, boxes []impl.Box, box, feed string) {
	t.Helper()
	m, _ := impl.PollMutation(boxes, box, feed)
	other, _ := impl.PollMutation(boxes, box, feed)
	texts := []string{m.Box}
	for _, x := range m.Items {
		texts = append(texts, x.Key, x.Text)
	}
	checkNew(t, "PollMutation", texts, append(textsOfBoxes(boxes...), box, feed))
	want := slices.Clone(other.Items)
	clear(m.Items)
	if !slices.Equal(other.Items, want) {
		t.Errorf("answers of PollMutation share memory: %s", told(other))
	}
}

func TestSearchesStay(t *testing.T) {
	for _, keys := range sampleSearches() {
		room := append(slices.Clone(keys), wordKey("TEXT", "behind"), impl.SearchKey{})
		before := slices.Clone(room)
		for i := range before {
			before[i].Set = slices.Clone(before[i].Set)
		}
		for _, m := range sampleStored() {
			impl.MatchSearch(room[:len(keys)], m, 7, 7, 7)
		}
		if !sameAnswer(room, before) {
			t.Errorf("something was written into %s, or behind them", told(keys))
		}
	}
}

func TestSearchesAreNewMemory(t *testing.T) {
	text := strings.Clone("12,5:3,*:7")
	first, _ := impl.ReadSet(text)
	second, _ := impl.ReadSet(text)
	clear(first)
	_ = append(first, impl.Range{From: 9})
	if again, _ := impl.ReadSet(text); !sameAnswer(second, rangesOf(12, 12, 5, 3, 0, 7)) || !sameAnswer(again, second) {
		t.Errorf("answers of ReadSet share memory: %v, %v", second, again)
	}
	var words, texts []string
	for _, k := range someKeys() {
		for _, word := range wordsOfKey(turned(k)) {
			words = append(words, strings.Clone(word))
		}
	}
	keys, _ := impl.ReadSearch(words)
	other, _ := impl.ReadSearch(words)
	want, _ := searchOf(words)
	for _, k := range keys {
		texts = append(texts, k.Kind, k.Text)
	}
	checkNew(t, "ReadSearch", texts, words)
	// What is written into one list of an answer, or behind it, is in no other.
	for i, k := range keys {
		_ = append(k.Set, impl.Range{From: 9})
		clear(k.Set[:cap(k.Set)])
		if !sameAnswer(keys[i+1:], want[i+1:]) {
			t.Error("lists of one answer of ReadSearch share memory")
		}
	}
	clear(keys[:cap(keys)])
	if again, code := impl.ReadSearch(words); !sameAnswer(other, want) || !sameAnswer(again, want) || code != impl.OK {
		t.Errorf("answers of ReadSearch share memory: %s, %s, %d", told(other), told(again), code)
	}
}

func TestCommandsAreNewMemory(t *testing.T) {
	for _, x := range []string{"a noop\r\nb noop", "a b {3}\r\n\r\nc d\r\n\r\n", "not whole", "a {4001}\r\n", longText} {
		x = strings.Clone(x)
		command, rest, _ := impl.TakeCommand(x)
		checkNew(t, "TakeCommand", []string{command, rest}, []string{x})
		checkNew(t, "TakeCommand, both", []string{command}, []string{rest})
	}
	for _, x := range []string{"a1 NOOP word other", "tag uid \"quoted\" (a list) {3}\r\nabc", "a \"NAME\" \"\\\"\"", "a (NAME)"} {
		x = strings.Clone(x)
		first, _ := impl.ParseCommand(x)
		second, _ := impl.ParseCommand(x)
		want, _ := commandOf(x)
		checkNew(t, "ParseCommand", append([]string{first.Tag, first.Name}, first.Args...), []string{x})
		_ = append(first.Args, "other")
		clear(first.Args[:cap(first.Args)])
		if again, _ := impl.ParseCommand(x); !sameAnswer(second, want) || !sameAnswer(again, want) {
			t.Errorf("answers of ParseCommand share memory: %s, %s", toldCommand(second), toldCommand(again))
		}
	}
	for _, word := range []string{"a", "a \"b\"", "\r\n", strings.Repeat("w", 201)} {
		c := impl.Command{Tag: strings.Clone("a"), Name: strings.Clone("NOOP"), Args: []string{strings.Clone(word)}}
		quoted, _ := impl.QuoteText(c.Args[0])
		text, _ := impl.CommandText(c)
		checkNew(t, "QuoteText and CommandText", []string{quoted, text}, append([]string{c.Tag, c.Name}, c.Args...))
	}
	list := strings.Clone("(some plain words)")
	first, _ := impl.ListWords(list)
	second, _ := impl.ListWords(list)
	checkNew(t, "ListWords", first, []string{list})
	clear(first[:cap(first)])
	if again, _ := impl.ListWords(list); strings.Join(second, " ") != "some plain words" || !slices.Equal(again, second) {
		t.Errorf("answers of ListWords share memory: %q, %q", second, again)
	}
}

func TestSessionsStay(t *testing.T) {
	for _, e := range talkedEngines() {
		for _, s := range sampleSessions() {
			room := widened(e.Boxes)
			before := copiedBoxes(room)
			asked := narrowed(room)
			whole := slices.Clone(asked[:len(e.Boxes)+1])
			engine := impl.Engine{Log: e.Log, Boxes: asked}
			for _, x := range sampleLines() {
				checkStays(t, "ImapStep", s.View, func(view []int) {
					session := s
					session.View = view
					impl.ImapStep(engine, session, x)
				})
			}
			impl.ImapRun(engine, sampleLines()[:17])
			impl.ImapRun(engine, append([]string{"a login me feed", "a select news"}, sampleLines()[:17]...))
			for _, b := range asked[:min(len(asked), 3)] {
				impl.ViewUpdates(b, s.View)
			}
			if !sameAnswer(room, before) || !sameAnswer(asked[:len(e.Boxes)+1], whole) {
				t.Errorf("something was written into %s, or behind its boxes", told(e))
			}
		}
	}
}

// checkNewSession asks that a session that is answered shares nothing with the one that was handed in, nor with the command.
func checkNewSession(t *testing.T, e impl.Engine, s impl.Imap, text string) {
	t.Helper()
	s.Box, s.View, text = strings.Clone(s.Box), slices.Clone(s.View), strings.Clone(text)
	view := slices.Clone(s.View)
	got, next, said, _ := impl.ImapStep(e, s, text)
	texts := append(textsOfBoxes(e.Boxes...), e.Log.Data, s.Box, text)
	checkNew(t, "ImapStep, the session", []string{next.Box, said}, texts)
	checkNew(t, "ImapStep, all", []string{next.Box, said}, append(textsOfBoxes(got.Boxes...), got.Log.Data))
	want := slices.Clone(next.View)
	_ = append(next.View, 77)
	clear(next.View[:cap(next.View)])
	if _, again, _, _ := impl.ImapStep(e, s, text); !slices.Equal(s.View, view) || !slices.Equal(again.View, want) {
		t.Errorf("answers of ImapStep to %q share memory", brief(text))
	}
}

func TestSessionsAreNewMemory(t *testing.T) {
	for _, e := range append(someEngines(), newsEngine(0), newsEngine(30), newsEngine(5000)) {
		e.Log.Data, e.Boxes = strings.Clone(e.Log.Data), freshBoxes(e.Boxes)
		for _, s := range []impl.Imap{{}, {State: 1}, {State: 2}, selectedOf("news", false, 1, 2, 3), selectedOf("news", true, 1, 3, 9)} {
			for _, x := range sampleLines() {
				checkNewEngine(t, "ImapStep", e, []string{s.Box, x}, func() impl.Engine { got, _, _, _ := impl.ImapStep(e, s, x); return got })
				checkNewSession(t, e, s, x)
			}
		}
		lines := []string{"a login me feed", "b select news", "c noop", "d store 1 +flags (\\Deleted)", "e expunge"}
		for n := range len(lines) + 1 {
			checkNewEngine(t, "ImapRun", e, lines, func() impl.Engine { got, _, _ := impl.ImapRun(e, lines[:n]); return got })
		}
	}
	b := boxOf("news", 1, 9, 2, 3, 9)
	for _, view := range [][]int{nil, {2, 3, 9}, {1, 2}, {2, 3, 4, 9}} {
		was := slices.Clone(view)
		said, left, _ := impl.ViewUpdates(b, view)
		again, other, _ := impl.ViewUpdates(b, view)
		clear(left[:cap(left)])
		if !slices.Equal(view, was) || !slices.Equal(other, []int{2, 3, 9}) || said != again {
			t.Errorf("ViewUpdates of %d shares memory, or is %d", was, other)
		}
	}
	m := impl.Stored{Uid: 1, Text: strings.Clone("X: y\r\n\r\nbody\r\n")}
	for _, item := range allItems() {
		item = strings.Clone(item)
		said, _, _ := impl.FetchText(m, 1, []string{item}, false)
		checkNew(t, "FetchText", []string{said}, []string{m.Text, item})
	}
}

func TestReadersStay(t *testing.T) {
	for _, list := range readStores() {
		room := widened(list)
		before := copiedBoxes(room)
		asked := narrowed(room)
		whole := slices.Clone(asked[:len(list)+1])
		for _, s := range sampleReaders() {
			for _, line := range sampleNews() {
				impl.NntpStep(asked, s, line)
			}
		}
		impl.NntpRun(asked, append([]string{"group news"}, sampleNews()...))
		if !sameAnswer(room, before) || !sameAnswer(asked[:len(list)+1], whole) {
			t.Errorf("something was written into %s, or behind them", told(list))
		}
	}
}

func TestReadersAreNewMemory(t *testing.T) {
	for _, x := range []string{"a\r\n", ".\r\n", "plain words\r\n.and points\r\n"} {
		x = strings.Clone(x)
		block, _ := impl.DotStuff(x)
		text, _ := impl.DotUnstuff(block)
		checkNew(t, "DotStuff", []string{block}, []string{x})
		checkNew(t, "DotUnstuff", []string{text}, []string{block})
	}
	list := freshBoxes(newsBoxes())
	for _, m := range list[0].Mails {
		line, _ := impl.OverLine(m)
		checkNew(t, "OverLine", []string{line}, []string{m.Text})
	}
	for _, s := range someReaders() {
		for _, line := range append(sampleNews(), "group none_yet", "listgroup news", "last", "over 5") {
			s.Group, line = strings.Clone(s.Group), strings.Clone(line)
			next, said, _ := impl.NntpStep(list, s, line)
			checkNew(t, "NntpStep", []string{next.Group, said}, append(textsOfBoxes(list...), s.Group, line))
			checkNew(t, "NntpStep, both", []string{next.Group}, []string{said})
			lines := []string{line}
			all, _ := impl.NntpRun(list, lines)
			checkNew(t, "NntpRun", []string{all}, append(textsOfBoxes(list...), lines...))
		}
	}
}

// copiedConns is connections that share no list with others.
func copiedConns(list []impl.Conn) []impl.Conn {
	list = slices.Clone(list)
	for i := range list {
		list[i].Imap.View = slices.Clone(list[i].Imap.View)
	}
	return list
}

func TestWorldsStay(t *testing.T) {
	for _, w := range sampleWorlds() {
		boxes := widened(w.Engine.Boxes)
		beforeBoxes := copiedBoxes(boxes)
		asked := narrowed(boxes)
		wholeBoxes := slices.Clone(asked[:len(w.Engine.Boxes)+1])
		conns := append(copiedConns(w.Conns), impl.Conn{Buffer: "behind"})
		for i := range conns {
			conns[i].Imap.View = append(conns[i].Imap.View, 77, 78)
		}
		before := copiedConns(conns)
		for i := range conns {
			conns[i].Imap.View = conns[i].Imap.View[:len(conns[i].Imap.View)-2]
		}
		world := impl.World{Engine: impl.Engine{Log: w.Engine.Log, Boxes: asked}, Conns: conns[:len(w.Conns)]}
		impl.WorldOK(world)
		for _, e := range sampleEvents() {
			impl.WorldStep(world, e)
		}
		for i := range conns {
			conns[i].Imap.View = conns[i].Imap.View[:len(conns[i].Imap.View)+2]
		}
		if !sameAnswer(conns, before) || !sameAnswer(boxes, beforeBoxes) || !sameAnswer(asked[:len(w.Engine.Boxes)+1], wholeBoxes) {
			t.Errorf("something was written into %s, or behind its lists", told(w))
		}
	}
}

// textsOfWorld is each text of a world.
func textsOfWorld(w impl.World) []string {
	texts := append(textsOfBoxes(w.Engine.Boxes...), w.Engine.Log.Data)
	for _, c := range w.Conns {
		texts = append(texts, c.Buffer, c.Imap.Box, c.Nntp.Group)
	}
	return texts
}

func freshWorld(w impl.World) impl.World {
	w.Engine.Log.Data, w.Engine.Boxes, w.Conns = strings.Clone(w.Engine.Log.Data), freshBoxes(w.Engine.Boxes), copiedConns(w.Conns)
	for i, c := range w.Conns {
		w.Conns[i].Buffer, w.Conns[i].Imap.Box, w.Conns[i].Nntp.Group = strings.Clone(c.Buffer), strings.Clone(c.Imap.Box), strings.Clone(c.Nntp.Group)
	}
	return w
}

// checkNewWorld asks that a world that is answered, and what is told, share nothing with what was handed in, nor with each other.
func checkNewWorld(t *testing.T, name string, arguments []string, ask func() (impl.World, []impl.Told)) {
	t.Helper()
	got, tells := ask()
	texts := textsOfWorld(got)
	checkNew(t, name, texts, arguments)
	for i, text := range texts {
		checkNew(t, name+", all", []string{text}, texts[i+1:])
	}
	for _, tell := range tells {
		checkNew(t, name+", what is told", []string{tell.Text}, append(arguments, texts...))
	}
	want, wantTells := copiedConns(got.Conns), slices.Clone(tells)
	for i, c := range got.Conns {
		_ = append(c.Imap.View, 77)
		clear(c.Imap.View[:cap(c.Imap.View)])
		if !sameAnswer(got.Conns[i+1:], want[i+1:]) {
			t.Errorf("lists of one answer of %s share memory", name)
		}
	}
	clear(got.Conns[:cap(got.Conns)])
	clear(tells[:cap(tells)])
	if again, tells := ask(); !sameAnswer(again.Conns, want) || !slices.Equal(tells, wantTells) {
		t.Errorf("answers of %s share memory", name)
	}
}

func TestWorldsAreNewMemory(t *testing.T) {
	for _, w := range sampleWorlds() {
		if !impl.WorldOK(w) {
			continue
		}
		w = freshWorld(w)
		for _, e := range append(sampleEvents(), impl.Event{Kind: 3, Conn: 1, Data: "\nstat\r\ngroup none_yet\r\nlist"}, impl.Event{Kind: 3, Data: "op\r\nb examine more\r\nc select none_yet\r\nd"}) {
			e.Box, e.Data = strings.Clone(e.Box), strings.Clone(e.Data)
			arguments := append(textsOfWorld(w), e.Box, e.Data)
			checkNewWorld(t, "WorldStep", arguments, func() (impl.World, []impl.Told) {
				next, tell, _ := impl.WorldStep(w, e)
				return next, []impl.Told{tell}
			})
			checkNewEngine(t, "WorldStep", w.Engine, []string{e.Box, e.Data}, func() impl.Engine { next, _, _ := impl.WorldStep(w, e); return next.Engine })
		}
	}
	for _, events := range sampleRuns() {
		events = slices.Clone(events)
		var arguments []string
		for i, e := range events {
			events[i].Box, events[i].Data = strings.Clone(e.Box), strings.Clone(e.Data)
			arguments = append(arguments, events[i].Box, events[i].Data)
		}
		checkNewWorld(t, "WorldRun", arguments, func() (impl.World, []impl.Told) {
			w, tells, _ := impl.WorldRun(impl.MaxRoom, events)
			return w, tells
		})
	}
	for kind, lines := range map[int][]string{1: {strings.Clone("a noop"), strings.Clone("b {2}\r\nab")}, 2: {strings.Clone("group news"), strings.Clone("list")}} {
		first, _ := impl.SayAll(lines, kind)
		second, _ := impl.SayAll(lines, kind)
		checkNew(t, "SayAll", first, lines)
		want := slices.Clone(second)
		clear(first[:cap(first)])
		if again, _ := impl.SayAll(lines, kind); !slices.Equal(second, want) || !slices.Equal(again, want) {
			t.Errorf("answers of SayAll share memory: %q, %q", second, again)
		}
	}
	first, _ := impl.NewWorld(9)
	first.Conns[0].Kind = 1
	if second, _ := impl.NewWorld(9); second.Conns[0].Kind != 0 {
		t.Error("answers of NewWorld share memory")
	}
}

func TestConsolesAreNewMemory(t *testing.T) {
	for _, x := range append(sampleTexts(), sampleScripts()...) {
		x = strings.Clone(x)
		e, _ := impl.ReadLine(x)
		checkNew(t, "ReadLine", []string{e.Box, e.Data}, []string{x})
		checkNew(t, "ReadLine, all", []string{e.Box}, []string{e.Data})
		said, _ := impl.Console(x)
		checkNew(t, "Console", []string{said}, []string{x})
	}
	for _, line := range []string{"make news", "poll news <feed/>", "  poll   news  <feed/>  ", "say 0 a noop", "say 0 x", "make x"} {
		line = strings.Clone(line)
		e, code := impl.ReadLine(line)
		if code != impl.OK {
			t.Errorf("ReadLine of %q has the code %d", line, code)
		}
		checkNew(t, "ReadLine", []string{e.Box, e.Data}, []string{line})
	}
}

func shareMemory(a, b string) bool {
	if a == "" || b == "" {
		return false
	}
	from, at := uintptr(unsafe.Pointer(unsafe.StringData(a))), uintptr(unsafe.Pointer(unsafe.StringData(b)))
	return at < from+uintptr(len(a)) && from < at+uintptr(len(b))
}
