package tests

import (
	"encoding/xml"
	"math"
	"math/rand"
	"slices"
	"strconv"
	"strings"
	"testing"

	"loop.example/g00268/impl"
)

func TestFeedNumbers(t *testing.T) {
	if impl.MaxEntries != 20 || impl.MaxField != 200 || impl.MaxContent != 1000 {
		t.Error("a bound of feeds has another number")
	}
}

func checkLine(t *testing.T, x, want string) {
	t.Helper()
	line, code := impl.OneLine(x)
	if line != want || code != impl.OK {
		t.Errorf("OneLine(%q) = %q, %d, not %q", brief(x), brief(line), code, brief(want))
	}
	if again, code := impl.OneLine(line); again != line || code != impl.OK {
		t.Errorf("OneLine(%q) once more is %q, %d", brief(x), brief(again), code)
	}
}

func TestLines(t *testing.T) {
	for x, want := range map[string]string{
		"": "", "a": "a", " ": "", "\t": "", "\n": "", "\r": "", " \t\r\n ": "", " a": "a", "a ": "a", "\ta\n": "a", "\r\na\r\n": "a", "a b": "a b", "a\tb": "a b", "a\nb": "a b", "a\rb": "a b", "a  b": "a b", "a \t\r\n b": "a b", " \n a \n b \n ": "a b", "a b c": "a b c", " a \n\tb  c ": "a b c",
		"\v": "\v", "a\fb": "a\fb", "\u00a0a\u00a0": "\u00a0a\u00a0", "a\u2003\u2003b": "a\u2003\u2003b", "\u0085": "\u0085", "\x00 \x00": "\x00 \x00", "\u00e4  \u20ac\n\U0001f600": "\u00e4 \u20ac \U0001f600",
		// It asks for no right text.
		"\xff": "\xff", " \xff \xfe ": "\xff \xfe", "\xe2\x82  \xac": "\xe2\x82 \xac", "\x1f\n\n\x1f": "\x1f \x1f",
	} {
		checkLine(t, x, want)
	}
	for n := range 8 {
		signsOf("\t\n\r ab", n, func(x string) { checkLine(t, x, lineOf(x)) })
	}
	for c := range 256 {
		one := string([]byte{byte(c)})
		for _, x := range []string{one, one + one, "a" + one + "b", one + "a" + one, "a" + one + one + "b", "a " + one + " b"} {
			if strings.Contains("\t\n\r ", one) {
				checkLine(t, x, strings.Join(strings.Fields(x), " "))
			} else {
				checkLine(t, x, strings.Trim(strings.ReplaceAll(x, "  ", " "), " "))
			}
		}
	}
}

func TestLinesOfMaxText(t *testing.T) {
	checkLine(t, fullText, fullText)
	checkLine(t, strings.Repeat(" ", impl.MaxText), "")
	checkLine(t, strings.Repeat("\r\n", impl.MaxText/2-1)+"ab", "ab")
	checkLine(t, "a"+strings.Repeat("\t", impl.MaxText-2)+"b", "a b")
	checkLine(t, strings.Repeat("a ", impl.MaxText/2), strings.Repeat("a ", impl.MaxText/2)[:impl.MaxText-1])
	for _, x := range []string{longText, endlessText, strings.Repeat(" ", impl.MaxText+1), strings.Repeat(" \n", impl.MaxText)} {
		if line, code := impl.OneLine(x); line != "" || code != impl.ErrLong {
			t.Error("OneLine beyond MaxText:", len(line), code)
		}
	}
}

var plainEntry = impl.Entry{Id: "i1", Title: "a & b", Link: "http://x/?a=1&b=2", Author: "who <w@x>", Date: 951786123, Content: "text\n <p>more</p>\r\n"}

// withLine is the plain entry with a line in the place of one of its own.
func withLine(k int, line string) impl.Entry {
	e := plainEntry
	*[]*string{&e.Id, &e.Title, &e.Link, &e.Author}[k] = line
	return e
}

func checkEntry(t *testing.T, e impl.Entry, want bool) {
	t.Helper()
	if got := impl.EntryOK(e); got != want {
		t.Errorf("EntryOK(%s) is %v", told(e), got)
	}
	for _, f := range []impl.Feed{{Entries: []impl.Entry{e}}, {Atom: true, Title: "t", Entries: []impl.Entry{plainEntry, e, plainEntry}}} {
		wantCode := impl.OK
		if !want {
			wantCode = impl.ErrBad
		}
		if code := checkFeed(t, f); code != wantCode || impl.FeedOK(f) != want {
			t.Errorf("a feed of %s has the code %d", told(e), code)
		}
	}
}

func TestEntryLines(t *testing.T) {
	wide := strings.Repeat("\u20ac", 66)
	for k := range 4 {
		checkEntry(t, withLine(k, ""), k > 0)
		for _, x := range []string{"a", "a b", "a b c", "&<>\"'", "\u00a0", "\ufffd", "\U0010ffff", "\x7f\u0080", lineBytes(199), lineBytes(200), wide + "ab", strings.Repeat("& ", 99) + "&", strings.Repeat("\"", 200)} {
			checkEntry(t, withLine(k, x), true)
		}
		for _, x := range []string{
			" ", "\t", "\n", "\r", " a", "a ", "a  b", "a\tb", "a\nb", "a\rb", "a \nb", "\na", "a\r", "a\r\nb", "a \t",
			"\x00", "a\x1f", "\x0b", "a\x0cb", "\ufffe", "\uffff", "\xff", "a\xe2\x82", "\xc0\x80", "\xed\xa0\x80", "\ufffd\xef",
			lineBytes(201), wide + "abc", wide + "\u20ac", lineBytes(199) + "\u00e4", strings.Repeat("a", impl.MaxText), longText, endlessText, strings.Repeat(" ", 201),
		} {
			checkEntry(t, withLine(k, x), false)
		}
	}
}

func TestEntryContents(t *testing.T) {
	e := plainEntry
	for _, x := range []string{"", " ", "\n", "\r", "\r\n", "\t \n\n ", " a  b ", "\ufffd\U0010ffff", "<p>&amp;</p>", "]]>", strings.Repeat("a", 999), strings.Repeat("a", 1000), strings.Repeat("\r", 1000), strings.Repeat("\"", 1000), strings.Repeat("\u20ac", 333) + "a"} {
		e.Content = x
		checkEntry(t, e, true)
	}
	for _, x := range []string{"\x00", "a\x01", "\x08", "\x0b", "\x0c", "\x0e", "a\x1fb", "\ufffe", "\uffff", "\xff", "\xe2\x82", "\xf4\x90\x80\x80", strings.Repeat("a", 1001), strings.Repeat("\n", 1001), strings.Repeat("\u20ac", 333) + "ab", strings.Repeat("\u20ac", 334), fullText, longText, endlessText} {
		e.Content = x
		checkEntry(t, e, false)
	}
}

func TestEntryDates(t *testing.T) {
	e := plainEntry
	for _, n := range []int{0, 1, 59, 86399, 86400, 951786123, impl.MaxStamp - 1, impl.MaxStamp} {
		e.Date = n
		checkEntry(t, e, true)
	}
	for _, n := range []int{-1, -86400, impl.MaxStamp + 1, math.MaxInt, math.MinInt, 1 << 32, -1 << 32} {
		e.Date = n
		checkEntry(t, e, false)
	}
}

func TestEntryRunes(t *testing.T) {
	for r := range 0x110000 {
		if r > 0x3000 && r < 0xd000 || r > 0x10100 && r < 0x10fff0 && r%0x101 > 0 || !isRune(r) {
			continue
		}
		x := shortest(r)
		e, inLine := plainEntry, xmlRune(r) && !strings.Contains("\t\n\r ", x)
		e.Content = x
		if impl.EntryOK(e) != xmlRune(r) {
			t.Errorf("EntryOK with the Content %q is %v", x, !xmlRune(r))
		}
		if impl.EntryOK(withLine(r%4, x)) != inLine || impl.FeedOK(impl.Feed{Title: x}) != inLine {
			t.Errorf("EntryOK, or FeedOK, of the line %q is not %v", x, inLine)
		}
	}
	if impl.EntryOK(impl.Entry{}) || !impl.EntryOK(impl.Entry{Id: "i"}) {
		t.Error("EntryOK of an entry without, or with an Id alone")
	}
}

func TestRightFeeds(t *testing.T) {
	for _, x := range []string{"", "t", "a b", "\u20ac & <b>", lineBytes(200)} {
		for _, f := range []impl.Feed{{Title: x}, {Title: x, Entries: []impl.Entry{}}, {Atom: true, Title: x, Entries: []impl.Entry{{Id: "i"}, plainEntry}}} {
			if code := checkFeed(t, f); code != impl.OK || !impl.FeedOK(f) {
				t.Errorf("a feed of the title %q has the code %d", x, code)
			}
		}
	}
	for _, x := range []string{" ", "\n", "a ", " a", "a  b", "a\tb", "\x00", "\xff", "\uffff", lineBytes(201), longText, endlessText} {
		for _, f := range []impl.Feed{{Title: x}, {Atom: true, Title: x, Entries: []impl.Entry{plainEntry}}} {
			if code := checkFeed(t, f); code != impl.ErrBad || impl.FeedOK(f) {
				t.Errorf("a feed of the title %q has the code %d", brief(x), code)
			}
		}
	}
	for n := range 24 {
		f := impl.Feed{Atom: n%2 == 0, Title: "t", Entries: slices.Repeat([]impl.Entry{plainEntry}, n)}
		wantCode := impl.OK
		if n > impl.MaxEntries {
			wantCode = impl.ErrBad
		}
		if code := checkFeed(t, f); code != wantCode || impl.FeedOK(f) != (n <= 20) {
			t.Errorf("a feed of %d entries has the code %d", n, code)
		}
		for i := range f.Entries {
			f.Entries[i] = impl.Entry{Id: "two  blanks"}
			if code := checkFeed(t, f); code != impl.ErrBad || impl.FeedOK(f) {
				t.Errorf("a feed of %d entries, of which %d is not right, has the code %d", n, i, code)
			}
			f.Entries[i] = plainEntry
		}
	}
	// A list within a feed is bounded by chapter 7 alone.
	for _, n := range []int{impl.MaxList, impl.MaxList + 1, 100000} {
		if code := checkFeed(t, impl.Feed{Entries: make([]impl.Entry, n)}); code != impl.ErrBad {
			t.Errorf("a feed of %d entries has the code %d", n, code)
		}
	}
}

func TestFeedKeys(t *testing.T) {
	for ids, want := range map[string]string{"": "", "a": "a", "a b": "a b", "b a": "b a", "a a": "a", "a b a": "a b", "b a b a c b": "b a c", "a A \u00e4 a": "a A \u00e4", "c b a c b a": "c b a", "x xx x xx": "x xx"} {
		f := impl.Feed{Title: "t"}
		for i, id := range strings.Fields(ids) {
			f.Entries = append(f.Entries, impl.Entry{Id: id, Title: strconv.Itoa(i)})
		}
		for _, f.Atom = range []bool{false, true} {
			if keys, code := impl.FeedKeys(f); strings.Join(keys, " ") != want || code != impl.OK {
				t.Errorf("FeedKeys of %q = %q, %d", ids, keys, code)
			}
		}
		f.Entries = append(f.Entries, impl.Entry{})
		if keys, code := impl.FeedKeys(f); len(keys) != 0 || code != impl.ErrBad {
			t.Errorf("FeedKeys of %q and none = %q, %d", ids, keys, code)
		}
	}
	if keys, code := impl.FeedKeys(impl.Feed{Title: "\n", Entries: []impl.Entry{{Id: "a"}}}); len(keys) != 0 || code != impl.ErrBad {
		t.Errorf("FeedKeys of a feed whose title is not right = %q, %d", keys, code)
	}
	many := impl.Feed{}
	for i := range 20 {
		many.Entries = append(many.Entries, impl.Entry{Id: strconv.Itoa(19 - i)})
	}
	if keys, code := impl.FeedKeys(many); len(keys) != 20 || keys[0] != "19" || keys[19] != "0" || code != impl.OK {
		t.Errorf("FeedKeys of MaxEntries = %q, %d", keys, code)
	}
}

func TestFeedTexts(t *testing.T) {
	two := []impl.Entry{{Id: "i"}, {Id: "<&>\"'", Title: "a > b", Link: "x?a=\"1\"&b='2'", Author: "\u00e4 <w>", Date: impl.MaxStamp, Content: "\r\n<p>&amp;</p>\t\r"}}
	for _, x := range []struct {
		feed impl.Feed
		text string
	}{
		{impl.Feed{}, "<rss version=\"2.0\"><channel><title></title></channel></rss>"},
		{impl.Feed{Atom: true}, "<feed><title></title></feed>"},
		{impl.Feed{Title: "a & b"}, "<rss version=\"2.0\"><channel><title>a &amp; b</title></channel></rss>"},
		{impl.Feed{Atom: true, Title: "\"<"}, "<feed><title>&quot;&lt;</title></feed>"},
		{impl.Feed{Entries: two[:1]}, "<rss version=\"2.0\"><channel><title></title><item><guid>i</guid><title></title><link></link><author></author><pubDate>Thu, 01 Jan 1970 00:00:00 +0000</pubDate><description></description></item></channel></rss>"},
		{impl.Feed{Atom: true, Entries: two[:1]}, "<feed><title></title><entry><id>i</id><title></title><link href=\"\"/><author><name></name></author><updated>1970-01-01T00:00:00Z</updated><content></content></entry></feed>"},
		{impl.Feed{Title: "t", Entries: two}, "<rss version=\"2.0\"><channel><title>t</title><item><guid>i</guid><title></title><link></link><author></author><pubDate>Thu, 01 Jan 1970 00:00:00 +0000</pubDate><description></description></item>" +
			"<item><guid>&lt;&amp;&gt;&quot;'</guid><title>a &gt; b</title><link>x?a=&quot;1&quot;&amp;b='2'</link><author>\u00e4 &lt;w&gt;</author><pubDate>Thu, 31 Dec 2099 23:59:59 +0000</pubDate><description>&#13;\n&lt;p&gt;&amp;amp;&lt;/p&gt;\t&#13;</description></item></channel></rss>"},
		{impl.Feed{Atom: true, Title: "t", Entries: two[1:]}, "<feed><title>t</title><entry><id>&lt;&amp;&gt;&quot;'</id><title>a &gt; b</title><link href=\"x?a=&quot;1&quot;&amp;b='2'\"/><author><name>\u00e4 &lt;w&gt;</name></author><updated>2099-12-31T23:59:59Z</updated><content>&#13;\n&lt;p&gt;&amp;amp;&lt;/p&gt;\t&#13;</content></entry></feed>"},
	} {
		if text, code := impl.FeedText(x.feed); text != x.text || code != impl.OK {
			t.Errorf("FeedText(%s) = %q, %d, not %q", told(x.feed), text, code, x.text)
		}
		checkFeed(t, x.feed)
	}
}

// feedOfBytes is a feed of MaxEntries whose text has so many bytes.
func feedOfBytes(atom bool, n int) impl.Feed {
	f := impl.Feed{Atom: atom, Title: "t"}
	for i := range impl.MaxEntries {
		f.Entries = append(f.Entries, impl.Entry{Id: "i" + strconv.Itoa(i), Link: "l", Content: strings.Repeat("\"", 510)})
	}
	last := &f.Entries[impl.MaxEntries-1]
	last.Content = ""
	lacks := n - len(feedText(f))
	last.Content = strings.Repeat("\"", lacks/6) + strings.Repeat("a", lacks%6)
	return f
}

func TestFeedsOfMaxText(t *testing.T) {
	for _, atom := range []bool{false, true} {
		for n, wantCode := range map[int]int{impl.MaxText - 1: impl.OK, impl.MaxText: impl.OK, impl.MaxText + 1: impl.ErrFull, impl.MaxText + 500: impl.ErrFull} {
			f := feedOfBytes(atom, n)
			if len(feedText(f)) != n {
				t.Fatalf("the feed made has %d bytes, not %d", len(feedText(f)), n)
			}
			if code := checkFeed(t, f); code != wantCode {
				t.Errorf("FeedText of %d bytes has the code %d", n, code)
			}
			// What is not right is told ahead of what has no room.
			f.Entries[0].Date = -1
			if code := checkFeed(t, f); code != impl.ErrBad {
				t.Errorf("FeedText of %d bytes, of a wrong feed, has the code %d", n, code)
			}
		}
		full := impl.Feed{Atom: atom, Title: lineBytes(200), Entries: slices.Repeat([]impl.Entry{{Id: lineBytes(200), Title: lineBytes(200), Link: lineBytes(200), Author: lineBytes(200), Date: impl.MaxStamp, Content: strings.Repeat("c", 1000)}}, 20)}
		if code := checkFeed(t, full); code != impl.OK {
			t.Error("FeedText of a feed that is full of letters has the code", code)
		}
		for i := range full.Entries {
			full.Entries[i].Content = strings.Repeat("&", 1000)
		}
		if code := checkFeed(t, full); code != impl.ErrFull {
			t.Error("FeedText of a feed that is full of signs has the code", code)
		}
	}
}

func TestFeedsAreReadBack(t *testing.T) {
	source := rand.New(rand.NewSource(8))
	ok := 0
	for range 4000 {
		f := madeFeed(source)
		if checkFeed(t, f) == impl.OK {
			ok++
		}
		if len(f.Entries) == 0 {
			continue
		}
		e := &f.Entries[source.Intn(len(f.Entries))]
		*[]*string{&e.Id, &e.Title, &e.Link, &e.Author, &e.Content, &f.Title}[source.Intn(6)] += oneOf(source, " ", "\n", "\x00", "\xff", "\u00e4", "a", "\ufffe")
		checkFeed(t, f)
	}
	if ok < 3000 {
		t.Error("few feeds were right:", ok)
	}
}

// What the library's reader finds in a feed's text, of either form.
type libraryRss struct {
	Version string `xml:"version,attr"`
	Channel struct {
		Title string `xml:"title"`
		Items []struct {
			Guid        string `xml:"guid"`
			Title       string `xml:"title"`
			Link        string `xml:"link"`
			Author      string `xml:"author"`
			PubDate     string `xml:"pubDate"`
			Description string `xml:"description"`
		} `xml:"item"`
	} `xml:"channel"`
}

type libraryAtom struct {
	XMLName xml.Name `xml:"feed"`
	Title   string   `xml:"title"`
	Entries []struct {
		Id    string `xml:"id"`
		Title string `xml:"title"`
		Link  struct {
			Href string `xml:"href,attr"`
		} `xml:"link"`
		Author struct {
			Name string `xml:"name"`
		} `xml:"author"`
		Updated string `xml:"updated"`
		Content string `xml:"content"`
	} `xml:"entry"`
}

// libraryReads is the feed that the library finds in a text.
func libraryReads(t *testing.T, text string, atom bool) impl.Feed {
	t.Helper()
	var rss libraryRss
	var feed libraryAtom
	var err error
	if atom {
		err = xml.Unmarshal([]byte(text), &feed)
	} else {
		err = xml.Unmarshal([]byte(text), &rss)
	}
	if err != nil || !atom && rss.Version != "2.0" {
		t.Fatalf("the library does not read %.400q: %v", text, err)
	}
	f := impl.Feed{Atom: atom, Title: rss.Channel.Title + feed.Title}
	for _, x := range rss.Channel.Items {
		stamp, _ := read822(x.PubDate)
		f.Entries = append(f.Entries, impl.Entry{Id: x.Guid, Title: x.Title, Link: x.Link, Author: x.Author, Date: stamp, Content: x.Description})
	}
	for _, x := range feed.Entries {
		stamp, _ := read3339(x.Updated)
		f.Entries = append(f.Entries, impl.Entry{Id: x.Id, Title: x.Title, Link: x.Link.Href, Author: x.Author.Name, Date: stamp, Content: x.Content})
	}
	return f
}

func TestFeedsOfTheLibrary(t *testing.T) {
	source := rand.New(rand.NewSource(9))
	for range 1000 {
		f := madeFeed(source)
		if text, code := impl.FeedText(f); code == impl.OK {
			if back := libraryReads(t, text, f.Atom); !sameFeed(back, f) {
				t.Errorf("the library has %s, not %s", told(back), told(f))
			}
		}
	}
}

// item and entry put elements into a feed of either form.
func item(inner string) string {
	return "<rss version='2.0'><channel><item>" + inner + "</item></channel></rss>"
}

func entry(inner string) string { return "<feed><entry>" + inner + "</entry></feed>" }

// checkSays asks for the one entry of a text.
func checkSays(t *testing.T, text string, want impl.Entry) {
	t.Helper()
	f, code := checkRead(t, text)
	if code != impl.OK || len(f.Entries) != 1 || f.Entries[0] != want {
		t.Errorf("ReadFeed(%.400q) = %s, %d, not %s", text, told(f), code, told(want))
	}
}

func TestFeedsOfOthers(t *testing.T) {
	for text, want := range map[string]impl.Feed{
		"<feed/>": {Atom: true}, "<feed></feed>": {Atom: true}, "<feed>x &amp; <b>y</b></feed>": {Atom: true}, " \n<feed xmlns='http://www.w3.org/2005/Atom' version='1'/>\n": {Atom: true}, "<feed><title> a\n b </title></feed>": {Atom: true, Title: "a b"},
		"<rss version='2.0'><channel/></rss>": {}, "<rss version=\"&#50;.0\" xmlns:dc='x'><channel></channel></rss>": {}, "<rss a='1' version='2.0'>x<b/><channel>y</channel>z</rss>": {}, "<?xml version='1.0'?><!-- x --><rss version='2.0'><channel><title>t</title></channel></rss>\n": {Title: "t"},
		"<feed><title>a<b>b<c>c</c></b>d</title></feed>":                                                                                                      {Atom: true, Title: "abcd"},
		"<feed><title>a</title><title>b</title></feed>":                                                                                                       {Atom: true, Title: "a"},
		"<feed><title/><title>b</title></feed>":                                                                                                               {Atom: true},
		"<feed><x><title>a</title></x><title>b</title></feed>":                                                                                                {Atom: true, Title: "b"},
		"<feed><x><title>a</title></x></feed>":                                                                                                                {Atom: true},
		"<feed title='a'><Title>b</Title><x:title>c</x:title></feed>":                                                                                         {Atom: true},
		"<feed><title><![CDATA[ <b> &amp;\r\n]]> &amp; &#9;c</title></feed>":                                                                                  {Atom: true, Title: "<b> &amp; & c"},
		"<feed><title>" + strings.Repeat(" ", 300) + lineBytes(200) + "\n</title></feed>":                                                                     {Atom: true, Title: lineBytes(200)},
		"<rss version='2.0'><title>a</title><channel><image><title>b</title></image><title>c</title></channel></rss>":                                         {Title: "c"},
		"<rss version='2.0'><channel><title>a</title></channel><channel><title>b</title><item><guid>i</guid></item></channel></rss>":                          {Title: "a"},
		"<rss version='2.0'><channel/><item><guid>i</guid></item></rss>":                                                                                      {},
		"<rss version='2.0'><item><guid>i</guid></item><channel><x><item><guid>j</guid></item></x></channel></rss>":                                           {},
		"<rss version='2.0'><channel><entry><id>i</id></entry><Item><guid>j</guid></Item></channel></rss>":                                                    {},
		"<feed><item><guid>i</guid></item><x><entry><id>j</id></entry></x><Entry><id>k</id></Entry></feed>":                                                   {Atom: true},
		"<feed><entry><id>a</id></entry><title>t</title> <!-- x --><entry><id>b</id><title>u</title></entry><entry><id>a</id></entry></feed>":                 {Atom: true, Title: "t", Entries: []impl.Entry{{Id: "a"}, {Id: "b", Title: "u"}, {Id: "a"}}},
		"<rss version='2.0'><channel><item><guid>b</guid></item>\n<item><guid>a</guid><entry><guid>c</guid></entry></item>\n<title>t</title></channel></rss>": {Title: "t", Entries: []impl.Entry{{Id: "b"}, {Id: "a"}}},
		"<feed><entry><id>a</id><entry><id>b</id></entry></entry></feed>":                                                                                     {Atom: true, Entries: []impl.Entry{{Id: "a"}}},
	} {
		if f, code := checkRead(t, text); !sameFeed(f, want) || code != impl.OK {
			t.Errorf("ReadFeed(%q) = %s, %d, not %s", text, told(f), code, told(want))
		}
	}
}

func TestWholeEntries(t *testing.T) {
	want := impl.Entry{Id: "i 1", Title: "a & b", Link: "http://x", Author: "who", Date: 951786123, Content: " text\n"}
	rss := []string{"<guid isPermaLink='false'> i\n1 </guid>", "<title>a &amp; b</title>", "<link>\thttp://x</link>", "<author>w<b>h</b>o</author>", "<pubDate> 29 Feb  2000 01:02:03 GMT</pubDate>", "<description> text\r\n</description>"}
	atom := []string{"<id>i 1</id>", "<title type='html'><![CDATA[a & b]]></title>", "<link rel='alternate' href=' http://x&#10;' x='1'>no</link>", "<author><uri>u</uri><name>who</name></author>", "<updated>2000-02-29T02:02:03.9+01:00</updated>", "<content> text\r</content>"}
	source := rand.New(rand.NewSource(10))
	for range 300 {
		for _, form := range []struct {
			list []string
			in   func(string) string
		}{{rss, item}, {atom, entry}} {
			text := ""
			for _, i := range source.Perm(6) {
				text += oneOf(source, "", " ", "\n\t", "<!-- <guid>g</guid> -->", "<?x?>", "x", "&amp;", "<![CDATA[<id>]]>", "<other/>", "<x:id>x</x:id>", "<category term='t'>no<id>no</id><guid>no</guid><link href='no'>no</link></category>", "<name>no</name>") + form.list[i]
			}
			checkSays(t, form.in(text), want)
		}
	}
}

func TestWhichElementCounts(t *testing.T) {
	for inner, want := range map[string]impl.Entry{
		"<guid>a</guid><guid>b</guid>": {Id: "a"}, "<x><guid>b</guid></x><guid>a</guid>": {Id: "a"}, "<title><guid>b</guid></title><guid>a</guid>": {Id: "a", Title: "b"}, "<guid>a<guid>b</guid></guid>": {Id: "ab"}, "<id>b</id><guid>a</guid>": {Id: "a"},
		"<guid>a</guid><author>b</author><dc:creator>c</dc:creator>": {Id: "a", Author: "b"}, "<guid>a</guid><dc:creator>c</dc:creator><author>b</author>": {Id: "a", Author: "b"}, "<guid>a</guid><dc:creator>c</dc:creator>": {Id: "a", Author: "c"}, "<guid>a</guid><dc:creator>c</dc:creator><dc:creator>d</dc:creator>": {Id: "a", Author: "c"},
		"<guid>a</guid><author/><dc:creator>c</dc:creator>": {Id: "a"}, "<guid>a</guid><dc:creator>c</dc:creator><author> </author>": {Id: "a"}, "<guid>a</guid><author/><author>b</author>": {Id: "a"}, "<guid>a</guid><author><name>b</name><email>c</email></author>": {Id: "a", Author: "bc"}, "<guid>a</guid><creator>c</creator><x><author>b</author></x>": {Id: "a"}, "<guid>a</guid><x><author>b</author></x><dc:creator>c</dc:creator>": {Id: "a", Author: "c"},
		"<guid>a</guid><description>d</description><content:encoded>e</content:encoded>": {Id: "a", Content: "e"}, "<guid>a</guid><content:encoded>e</content:encoded><description>d</description>": {Id: "a", Content: "e"}, "<guid>a</guid><description>d</description><description>e</description>": {Id: "a", Content: "d"}, "<guid>a</guid><description>d</description><content:encoded/>": {Id: "a"}, "<guid>a</guid><content:encoded></content:encoded><content:encoded>e</content:encoded><description>d</description>": {Id: "a"}, "<guid>a</guid><content>d</content><summary>e</summary>": {Id: "a"}, "<guid>a</guid><x><content:encoded>e</content:encoded></x><description>d</description>": {Id: "a", Content: "d"},
		"<guid>a</guid><pubDate/><pubDate>no date</pubDate>": {Id: "a"}, "<guid>a</guid><pubDate>1 Jan 1970 00:00:01 UT</pubDate><pubDate>no date</pubDate>": {Id: "a", Date: 1}, "<guid>a</guid><updated>no date</updated><published>no</published><date>no</date><x><pubDate>no</pubDate></x>": {Id: "a"}, "<guid>a</guid><pubDate>1 Jan <b>1970 00:00:01</b> UT</pubDate>": {Id: "a", Date: 1},
		"<guid>a</guid><link>b</link><link>c</link>": {Id: "a", Link: "b"}, "<guid>a</guid><link/><link>c</link>": {Id: "a"}, "<guid>a</guid><link href='b'/>": {Id: "a"}, "<guid>a</guid><link href='b'>c</link>": {Id: "a", Link: "c"}, "<guid>a</guid><atom:link href='b'>c</atom:link>": {Id: "a"}, "<guid>a</guid>": {Id: "a"},
		"<guid>a</guid><title>b</title><title>c</title>": {Id: "a", Title: "b"}, "<guid>a</guid><title></title><title>c</title>": {Id: "a"}, "<guid>a</guid><x><title>c</title></x>": {Id: "a"}, "<guid>a</guid><description><title>c</title>d</description>": {Id: "a", Content: "cd"},
		// The Link is the Id where there is none.
		"<link>b</link>": {Id: "b", Link: "b"}, "<link> b\nc </link><guid/>": {Id: "b c", Link: "b c"}, "<guid> \n</guid><link>b</link>": {Id: "b", Link: "b"}, "<guid/><guid>a</guid><link>b</link>": {Id: "b", Link: "b"}, "<x><guid>a</guid></x><link>b</link>": {Id: "b", Link: "b"}, "<id>a</id><link>b</link><link>c</link>": {Id: "b", Link: "b"},
	} {
		checkSays(t, item(inner), want)
	}
	for inner, want := range map[string]impl.Entry{
		"<id>a</id><id>b</id>": {Id: "a"}, "<x><id>b</id></x><id>a</id>": {Id: "a"}, "<author><id>b</id></author><id>a</id>": {Id: "a"}, "<id>a<id>b</id></id>": {Id: "ab"}, "<guid>b</guid><id>a</id>": {Id: "a"}, "<source><id>b</id><title>c</title><updated>d</updated></source><id>a</id>": {Id: "a"},
		"<id>a</id><author><name>b</name></author>": {Id: "a", Author: "b"}, "<id>a</id><author><email>e</email><name> b </name><name>c</name>d</author>": {Id: "a", Author: "b"}, "<id>a</id><author>b</author>": {Id: "a"}, "<id>a</id><author/>": {Id: "a"}, "<id>a</id><author><email>e</email></author><author><name>b</name></author>": {Id: "a"}, "<id>a</id><author><x><name>b</name></x></author>": {Id: "a"}, "<id>a</id><author><x><name>b</name></x><name>c</name></author>": {Id: "a", Author: "c"}, "<id>a</id><name>b</name>": {Id: "a"}, "<id>a</id><contributor><name>b</name></contributor><dc:creator>c</dc:creator>": {Id: "a"}, "<id>a</id><author><name/><name>b</name></author>": {Id: "a"}, "<id>a</id><author><name>b<x>c</x></name></author>": {Id: "a", Author: "bc"}, "<id>a</id><x><author><name>b</name></author></x>": {Id: "a"},
		"<id>a</id><summary>d</summary><content>e</content>": {Id: "a", Content: "e"}, "<id>a</id><content>e</content><summary>d</summary>": {Id: "a", Content: "e"}, "<id>a</id><summary>d</summary><summary>e</summary>": {Id: "a", Content: "d"}, "<id>a</id><summary>d</summary><content/>": {Id: "a"}, "<id>a</id><content type='xhtml'> <div>x <b>y</b></div> </content>": {Id: "a", Content: " x y "}, "<id>a</id><description>d</description><content:encoded>e</content:encoded>": {Id: "a"}, "<id>a</id><x><content>e</content></x><summary>d</summary>": {Id: "a", Content: "d"}, "<id>a</id><content src='x'/><content>e</content>": {Id: "a"},
		"<id>a</id><published>1970-01-01T00:00:01Z</published><updated>1970-01-01T00:00:02Z</updated>": {Id: "a", Date: 2}, "<id>a</id><updated>1970-01-01T00:00:02Z</updated><published>1970-01-01T00:00:01Z</published>": {Id: "a", Date: 2}, "<id>a</id><published>1970-01-01T00:00:01Z</published>": {Id: "a", Date: 1}, "<id>a</id><published>no date</published><updated/>": {Id: "a"}, "<id>a</id><updated> \n</updated><updated>no date</updated>": {Id: "a"}, "<id>a</id><pubDate>no date</pubDate><x><updated>no</updated></x>": {Id: "a"}, "<id>a</id><updated>1970-01-01T00:00:02Z</updated><published>no date</published>": {Id: "a", Date: 2},
		"<id>a</id><link href='b'/><link href='c'/>": {Id: "a", Link: "b"}, "<id>a</id><link/><link href='c'/>": {Id: "a"}, "<id>a</id><link>b</link>": {Id: "a"}, "<id>a</id><link rel='self' href='b'>c</link>": {Id: "a", Link: "b"}, "<id>a</id><link HREF='b'/>": {Id: "a"}, "<id>a</id><link href=''/><link href='c'/>": {Id: "a"}, "<id>a</id><link href='&#13; b&#9;&#10;c  &amp;\r'/>": {Id: "a", Link: "b c &"}, "<id>a</id><x><link href='b'/></x>": {Id: "a"}, "<id>a</id><x:link href='b'/>": {Id: "a"},
		"<link href='b'/>": {Id: "b", Link: "b"}, "<link href=' b  c '/><id/>": {Id: "b c", Link: "b c"}, "<id>\t</id><link href='b'>c</link>": {Id: "b", Link: "b"}, "<x><id>a</id></x><link href='b'/><link href='c'/>": {Id: "b", Link: "b"},
	} {
		checkSays(t, entry(inner), want)
	}
}

// Content alone stays as it stands.
func TestBlanksInValues(t *testing.T) {
	for _, x := range []string{" ", "\t", "\n", "\r", "\r\n", "  ", " \t\n\r ", "&#32;", "&#9;&#10;&#13;", "&#13;\n", "<![CDATA[ ]]>", "<![CDATA[\r\n]]>"} {
		list, _, _ := tokensOf("<a>" + x + "</a>")
		blanks := textWithin(list)
		value := x + "v" + x + "w" + x
		plain := blanks + "v" + blanks + "w" + blanks
		checkSays(t, item("<guid>"+value+"</guid><title>"+value+"</title><link>"+value+"</link><author>"+value+"</author><description>"+value+"</description>"), impl.Entry{Id: "v w", Title: "v w", Link: "v w", Author: "v w", Content: plain})
		checkSays(t, item("<guid>i</guid><title>"+x+"</title><link>"+x+"</link><author>"+x+"</author><pubDate>"+x+"</pubDate><description>"+x+"</description>"), impl.Entry{Id: "i", Content: blanks})
		checkSays(t, item("<guid>i</guid><pubDate>"+x+"1"+x+"Jan"+x+"1970"+x+"00:00:09"+x+"GMT"+x+"</pubDate>"), impl.Entry{Id: "i", Date: 9})
		checkSays(t, entry("<id>"+value+"</id><title>"+value+"</title><author><name>"+value+"</name></author><content>"+value+"</content>"), impl.Entry{Id: "v w", Title: "v w", Author: "v w", Content: plain})
		checkSays(t, entry("<id>i</id><title>"+x+"</title><author>"+x+"<name>"+x+"</name></author><updated>"+x+"</updated><content>"+x+"</content>"), impl.Entry{Id: "i", Content: blanks})
		checkSays(t, entry("<id>i</id><updated>"+x+"1970-01-01T00:00:09Z"+x+"</updated>"), impl.Entry{Id: "i", Date: 9})
		if !strings.Contains(x, "<") {
			checkSays(t, entry("<id>i</id><link href='"+value+"'/>"), impl.Entry{Id: "i", Link: "v w"})
			checkSays(t, entry("<id>i</id><link href='"+x+"'/>"), impl.Entry{Id: "i"})
		}
	}
}

func TestDatesOfEntries(t *testing.T) {
	for date, want := range map[string]int{
		"Thu, 02 Jan 2020 03:04:05 +0000": 1577934245, "Thu, 2 Jan 2020 03:04:05 GMT": 1577934245, "02 Jan 2020 03:04:05 UT": 1577934245, "2 Jan 2020 04:04:05 +0100": 1577934245, "1 Jan 2020 22:34:05 -0430": 1577934245, "Thu, 01 Jan 1970 00:00:00 +0000": 0, "Thu, 31 Dec 2099 23:59:59 +0000": impl.MaxStamp, "1 Jan 1970 23:59:00 +2359": 0, "31 Dec 2099 22:59:59 -0100": impl.MaxStamp,
	} {
		checkSays(t, item("<guid>i</guid><pubDate>"+date+"</pubDate>"), impl.Entry{Id: "i", Date: want})
		checkCode(t, entry("<id>i</id><updated>"+date+"</updated>"), impl.ErrForm)
		checkCode(t, entry("<id>i</id><published>"+date+"</published>"), impl.ErrForm)
	}
	for date, want := range map[string]int{
		"2020-01-02T03:04:05Z": 1577934245, "2020-01-02T03:04:05.123456789Z": 1577934245, "2020-01-02T04:04:05+01:00": 1577934245, "2020-01-01T22:34:05.9-04:30": 1577934245, "1970-01-01T00:00:00Z": 0, "2099-12-31T23:59:59.999Z": impl.MaxStamp, "1970-01-01T23:59:00+23:59": 0, "2099-12-31T22:59:59-01:00": impl.MaxStamp,
	} {
		checkSays(t, entry("<id>i</id><updated>"+date+"</updated>"), impl.Entry{Id: "i", Date: want})
		checkSays(t, entry("<id>i</id><published>"+date+"</published>"), impl.Entry{Id: "i", Date: want})
		checkCode(t, item("<guid>i</guid><pubDate>"+date+"</pubDate>"), impl.ErrForm)
	}
	for date, code := range map[string]int{
		"today": impl.ErrForm, "0": impl.ErrForm, "Wed, 02 Jan 2020 03:04:05 +0000": impl.ErrForm, "30 Feb 2020 03:04:05 GMT": impl.ErrForm, "2 Jan 2020 03:04:05": impl.ErrForm, "2 Jan 2020 24:00:00 GMT": impl.ErrForm, "2 Jan 20 03:04:05 GMT": impl.ErrForm, "1 Jan 2100 00:00:00 +0001": impl.ErrForm, "2 Jan 2020 03:04:05 EST": impl.ErrForm, "x <b/>": impl.ErrForm, "&#160;": impl.ErrForm,
		"1 Jan 1970 00:00:00 +0001": impl.ErrRange, "Thu, 31 Dec 2099 23:59:59 -0001": impl.ErrRange,
	} {
		checkCode(t, item("<guid>i</guid><pubDate>"+date+"</pubDate>"), code)
	}
	for date, code := range map[string]int{
		"today": impl.ErrForm, "2020-01-02": impl.ErrForm, "2020-01-02 03:04:05Z": impl.ErrForm, "2020-01-02T03:04:05": impl.ErrForm, "2020-02-30T03:04:05Z": impl.ErrForm, "2020-01-02T03:04:60Z": impl.ErrForm, "2020-01-02t03:04:05z": impl.ErrForm, "2100-01-01T00:00:00+00:01": impl.ErrForm, "1969-12-31T23:59:59Z": impl.ErrForm,
		"1970-01-01T00:00:00+00:01": impl.ErrRange, "2099-12-31T23:59:59-00:01": impl.ErrRange,
	} {
		checkCode(t, entry("<id>i</id><updated>"+date+"</updated>"), code)
		checkCode(t, entry("<id>i</id><published>"+date+"</published>"), code)
		checkCode(t, entry("<id>i</id><updated>"+date+"</updated><published>2020-01-02T03:04:05Z</published>"), code)
	}
}

func checkCode(t *testing.T, text string, want int) {
	t.Helper()
	if f, code := checkRead(t, text); !sameFeed(f, impl.Feed{}) || code != want {
		t.Errorf("ReadFeed(%.400q) = %s, %d, not %d", text, told(f), code, want)
	}
}

func TestWrongXmlOfFeeds(t *testing.T) {
	for text, code := range map[string]int{
		"": impl.ErrRoot, "x": impl.ErrRoot, "<feed": impl.ErrForm, "<feed>": impl.ErrClose, "<feed></rss>": impl.ErrClose, "<feed/><feed/>": impl.ErrRoot, "<feed>&none;</feed>": impl.ErrEntity, "<feed a='' a=''/>": impl.ErrTwice, "<feed" + attrsOf(9) + "/>": impl.ErrMany, "<feed>\x00</feed>": impl.ErrForm, "<feed>\xff</feed>": impl.ErrForm, "<feed><title>\uffff</title></feed>": impl.ErrForm, "<!DOCTYPE feed><feed/>": impl.ErrForm, strings.Repeat("<feed>", 13): impl.ErrDepth, "<feed>&#0;</feed>": impl.ErrEntity,
		// Whatever else is wrong, that is told first.
		"<html>": impl.ErrClose, "<feed><entry/></fee>": impl.ErrClose, "<feed><entry><updated>no date</updated></entry>&x;</feed>": impl.ErrEntity, "<rss version='1.0'/>x": impl.ErrRoot, "<rss version='1.0'>&x;</rss>": impl.ErrEntity, "<feed><title>" + lineBytes(201) + "</title>": impl.ErrClose, "<feed>" + strings.Repeat("<entry><id>i</id></entry>", 21) + "<a": impl.ErrForm,
		strings.Repeat("<entry/>", 10000): impl.ErrLong, longText: impl.ErrLong,
	} {
		checkCode(t, text, code)
	}
}

func TestWrongRootsOfFeeds(t *testing.T) {
	for _, text := range []string{
		"<html/>", "<Feed/>", "<FEED/>", "<feeds/>", "<atom:feed/>", "<x><feed/></x>", "<channel/>", "<channel><feed/></channel>", "<channel><title>t</title><item><guid>i</guid></item></channel>", "<item><guid>i</guid></item>", "<entry><id>i</id></entry>", "<rdf:RDF><channel/></rdf:RDF>",
		"<rss/>", "<rss><channel/></rss>", "<rss version='2.0'/>", "<rss version='2.0'></rss>", "<rss version='2.0'>channel</rss>", "<rss version='2.0'><feed/></rss>", "<rss version='2.0'><feed><channel/></feed></rss>", "<rss version='2.0'><x><channel/></x></rss>", "<rss version='2.0'><Channel/></rss>", "<rss version='2.0'><title>t</title><item><guid>i</guid></item></rss>", "<rss version='2.0'><rss version='2.0'><channel/></rss></rss>",
		"<rss version='0.91'><channel/></rss>", "<rss version='2'><channel/></rss>", "<rss version='2.00'><channel/></rss>", "<rss version=''><channel/></rss>", "<rss version=' 2.0'><channel/></rss>", "<rss version='2.0 '><channel/></rss>", "<rss Version='2.0'><channel/></rss>", "<rss x:version='2.0'><channel/></rss>", "<rss><channel version='2.0'/></rss>", "<rss version='1.0'><feed/><channel/></rss>", "<Rss version='2.0'><channel/></Rss>", "<x version='2.0'><channel/></x>", "<RSS version='2.0'><channel/></RSS>",
		// It is told ahead of what the title and the entries do wrong.
		"<rss version='1.0'><channel><title>" + lineBytes(201) + "</title></channel></rss>", "<rss><channel><item/></channel></rss>", "<html><title>" + lineBytes(201) + "</title><entry/></html>",
	} {
		checkCode(t, text, impl.ErrRoot)
	}
	// A feed within a channel is none; neither is a channel within a feed.
	if f, code := checkRead(t, "<rss version='2.0'><channel><title>a</title><feed><title>b</title><entry><id>i</id></entry></feed></channel></rss>"); !sameFeed(f, impl.Feed{Title: "a"}) || code != impl.OK {
		t.Error("a feed within a channel:", told(f), code)
	}
	if f, code := checkRead(t, "<feed><channel><title>a</title><item><guid>i</guid></item></channel></feed>"); !sameFeed(f, impl.Feed{Atom: true}) || code != impl.OK {
		t.Error("a channel within a feed:", told(f), code)
	}
}

func TestEntriesWithoutId(t *testing.T) {
	for _, inner := range []string{
		"", " ", "x", "<title>t</title>", "<x><guid>i</guid><id>i</id></x>", "<Id>i</Id><GUID>i</GUID>", "<x:id>i</x:id>", "<title>t</title><author>a</author><description>d</description><content>c</content>", "<link/>", "<link> </link>", "<x><link href='l'>l</link></x>", "<!-- <id>i</id> -->", "<item><guid>i</guid></item>", "<entry><id>i</id></entry>", "<comments>c</comments>", "<atom:link href='l'>l</atom:link>",
	} {
		for _, id := range []string{"", "<guid/><id/>", "<guid></guid><id></id>", "<guid> </guid><id> </id>", "<guid>\t\r\n</guid><id>\t\r\n</id>", "<guid>&#32;&#13;</guid><id>&#9;</id>", "<guid><b/> </guid><id><b> </b></id>", "<guid><![CDATA[]]></guid><id><![CDATA[ ]]></id>", "<guid/><guid>i</guid><id> </id><id>i</id>"} {
			checkCode(t, item(inner+id), impl.ErrNone)
			checkCode(t, entry(id+inner), impl.ErrNone)
		}
	}
	checkCode(t, item("<id>i</id><link href='l'/>"), impl.ErrNone)
	checkCode(t, entry("<guid>i</guid><link>l</link><link href='l'/>"), impl.ErrNone)
	checkCode(t, entry("<link href=' &#13;'/>"), impl.ErrNone)
}

func TestWrongValues(t *testing.T) {
	for n, code := range map[int]int{199: impl.OK, 200: impl.OK, 201: impl.ErrRange, 1000: impl.ErrRange, 60000: impl.ErrRange} {
		x := lineBytes(n)
		for _, text := range []string{
			"<feed><title>" + x + "</title></feed>", "<rss version='2.0'><channel><title>" + x + "</title></channel></rss>", "<feed><title> \n" + x + "\t</title><entry><id>i</id></entry></feed>",
			item("<guid>" + x + "</guid>"), item("<guid> " + x + " </guid>"), item("<guid>i</guid><title>" + x + "</title>"), item("<guid>i</guid><link>" + x + "</link>"), item("<guid>i</guid><author>" + x + "</author>"), item("<guid>i</guid><dc:creator>\n" + x + "</dc:creator>"),
			entry("<id>" + x + "</id>"), entry("<id>i</id><title>" + x + "\n</title>"), entry("<id>i</id><link href='" + x + "'/>"), entry("<id>i</id><author><name>" + x + "</name></author>"),
		} {
			if _, got := checkRead(t, text); got != code {
				t.Errorf("ReadFeed(%.100q) with a line of %d bytes has the code %d", text, n, got)
			}
		}
		// The Link is the Id, and not right, too.
		for _, text := range []string{item("<link>" + x + "</link>"), entry("<link href='" + x + "'/>")} {
			if _, got := checkRead(t, text); got != code {
				t.Errorf("ReadFeed(%.100q) with a Link of %d bytes has the code %d", text, n, got)
			}
		}
	}
	for n, code := range map[int]int{999: impl.OK, 1000: impl.OK, 1001: impl.ErrRange, 60000: impl.ErrRange} {
		for _, x := range []string{strings.Repeat("c", n), strings.Repeat(" ", n), strings.Repeat("\r\n", n), "<![CDATA[" + strings.Repeat(" ", n) + "]]>"} {
			if len(x) > impl.MaxText-200 {
				continue
			}
			for _, text := range []string{
				item("<guid>i</guid><description>" + x + "</description>"), item("<content:encoded>" + x + "</content:encoded><guid>i</guid><description>d</description>"), entry("<id>i</id><content>" + x + "</content>"), entry("<summary>" + x + "</summary><id>i</id>"),
			} {
				if _, got := checkRead(t, text); got != code {
					t.Errorf("ReadFeed(%.100q) with a Content of %d bytes has the code %d", text, n, got)
				}
			}
		}
	}
	// What does not count may be of any length.
	long := strings.Repeat("x ", 2000)
	checkSays(t, item("<guid>i</guid><guid>"+long+"</guid><description>"+long+"</description><content:encoded>e</content:encoded><other>"+long+"</other><author/><dc:creator>"+long+"</dc:creator>"+long), impl.Entry{Id: "i", Content: "e"})
	checkSays(t, entry("<id>i</id><link/><link href='"+long+"'/><content>e</content><summary>"+long+"</summary><author>"+long+"</author>"), impl.Entry{Id: "i", Content: "e"})
	// So may blanks, and elements within a line.
	checkSays(t, item("<guid>"+strings.Repeat(" \n", 5000)+"i"+strings.Repeat("\t", 5000)+"j</guid><title>"+strings.Repeat("<b/>", 200)+"</title>"), impl.Entry{Id: "i j"})
}

func TestManyEntries(t *testing.T) {
	one := map[bool]string{false: "<item><guid>i</guid></item>", true: "<entry><id>i</id></entry>"}
	none := map[bool]string{false: "<item/>", true: "<entry><title>t</title></entry>"}
	undated := map[bool]string{false: "<item><guid>i</guid><pubDate>no</pubDate></item>", true: "<entry><id>i</id><updated>no</updated></entry>"}
	wide := map[bool]string{false: "<item><guid>" + lineBytes(201) + "</guid></item>", true: "<entry><id>" + lineBytes(201) + "</id></entry>"}
	for _, atom := range []bool{false, true} {
		whole := func(inner string) string {
			if atom {
				return "<feed>" + inner + "</feed>"
			}
			return "<rss version='2.0'><channel>" + inner + "</channel></rss>"
		}
		for n := range 30 {
			f, code := checkRead(t, whole(strings.Repeat(one[atom], n)+one[!atom]+"<x>"+one[atom]+"</x>"))
			if n <= 20 && (code != impl.OK || len(f.Entries) != n || f.Atom != atom) || n > 20 && code != impl.ErrMany {
				t.Errorf("ReadFeed of %d entries: %d, %d", n, len(f.Entries), code)
			}
		}
		// In turn: what is wrong with the entry that is one too many comes ahead of that, what is wrong with the next one does not.
		for wrong, code := range map[string]int{none[atom]: impl.ErrNone, undated[atom]: impl.ErrForm, wide[atom]: impl.ErrRange} {
			for n := range 21 {
				checkCode(t, whole(strings.Repeat(one[atom], n)+wrong+strings.Repeat(one[atom], 25-n)), code)
				checkCode(t, whole(strings.Repeat(one[atom], n)+wrong+none[atom]+undated[atom]+wide[atom]), code)
			}
			checkCode(t, whole(strings.Repeat(one[atom], 21)+wrong), impl.ErrMany)
			checkCode(t, whole("<title>"+lineBytes(201)+"</title>"+wrong), impl.ErrRange)
			checkCode(t, whole(wrong+strings.Repeat(one[atom], 30)+"<title>"+lineBytes(201)+"</title>"), impl.ErrRange)
		}
		checkCode(t, whole(strings.Repeat(one[atom], 21)+"<title>"+lineBytes(201)+"</title>"), impl.ErrRange)
	}
}

// Of two faults of one entry the one that the document tells first.
func TestTwoFaultsOfEntries(t *testing.T) {
	wide, long := lineBytes(201), strings.Repeat("c", 1001)
	for inner, code := range map[string]int{
		"<pubDate>no</pubDate>": impl.ErrNone, "<title>" + wide + "</title>": impl.ErrNone, "<description>" + long + "</description><pubDate>no</pubDate>": impl.ErrNone, "<guid> </guid><pubDate>1 Jan 1970 00:00:00 +0001</pubDate>": impl.ErrNone,
		"<guid>i</guid><title>" + wide + "</title><pubDate>no</pubDate>": impl.ErrForm, "<guid>" + wide + "</guid><pubDate>no</pubDate>": impl.ErrForm, "<link>" + wide + "</link><pubDate>no</pubDate>": impl.ErrForm, "<guid>i</guid><pubDate>1 Jan 1970 00:00:00 +0001</pubDate><description>" + long + "</description>": impl.ErrRange,
		"<guid>i</guid><title>" + wide + "</title><description>" + long + "</description>": impl.ErrRange,
	} {
		checkCode(t, item(inner), code)
	}
	for inner, code := range map[string]int{
		"<updated>no</updated>": impl.ErrNone, "<title>" + wide + "</title>": impl.ErrNone, "<content>" + long + "</content><published>no</published>": impl.ErrNone, "<link/><id/><updated>1970-01-01T00:00:00+00:01</updated>": impl.ErrNone,
		"<id>i</id><title>" + wide + "</title><updated>no</updated>": impl.ErrForm, "<id>" + wide + "</id><updated>no</updated>": impl.ErrForm, "<link href='" + wide + "'/><published>no</published>": impl.ErrForm, "<id>i</id><author><name>" + wide + "</name></author><content>" + long + "</content>": impl.ErrRange,
	} {
		checkCode(t, entry(inner), code)
	}
}

func TestReadFeedsOfMaxText(t *testing.T) {
	for _, ends := range [][2]string{{"<feed><title>", "</title></feed>"}, {"<feed><!--", "--><entry><id>i</id></entry></feed>"}, {"<rss version='2.0'><channel><item><guid>i</guid><title>", "</title></item></channel></rss>"}, {"<feed><entry><id>", "i</id></entry></feed>"}, {"<feed/>", ""}, {"", "<rss version='2.0'><channel/></rss>"}, {"<feed><entry><link href='", "l'/></entry></feed>"}} {
		for size, want := range map[int]int{impl.MaxText - 1: impl.OK, impl.MaxText: impl.OK, impl.MaxText + 1: impl.ErrLong, 3 * impl.MaxText: impl.ErrLong} {
			text := ends[0] + strings.Repeat(" ", size-len(ends[0])-len(ends[1])) + ends[1]
			if _, code := checkRead(t, text); code != want {
				t.Errorf("ReadFeed of %d bytes between %q has the code %d", size, ends, code)
			}
		}
	}
	for _, text := range []string{longText, endlessText, strings.Repeat("<", impl.MaxText+1), "<feed/>" + strings.Repeat("\xff", impl.MaxText)} {
		checkCode(t, text, impl.ErrLong)
	}
	content := strings.Repeat("c", 60000)
	checkCode(t, item("<guid>i</guid><description>"+content+"</description>"), impl.ErrRange)
}

func TestFeedsOfManyTokens(t *testing.T) {
	for n, want := range map[int]int{297: impl.OK, 298: impl.OK, 299: impl.ErrMany, 1000: impl.ErrMany} {
		if _, code := checkRead(t, "<feed><title>"+strings.Repeat("<b/>", n)+"</title></feed>"); code != want {
			t.Errorf("ReadFeed of %d elements has the code %d", n, code)
		}
	}
	// A feed's own text has never so many.
	for atom, want := range map[bool]int{false: 407, true: 425} {
		f := impl.Feed{Atom: atom, Title: "t", Entries: slices.Repeat([]impl.Entry{plainEntry}, 20)}
		text, _ := impl.FeedText(f)
		if list, _, code := impl.XmlTokens(text); len(list) != want || code != impl.OK {
			t.Errorf("the text of MaxEntries entries has %d tokens, %d", len(list), code)
		}
		if code := checkFeed(t, f); code != impl.OK {
			t.Error("FeedText of MaxEntries entries:", code)
		}
	}
	// Within MaxDepth elements a text is read too.
	deep := strings.Repeat("<b>", 9) + "x" + strings.Repeat("</b>", 9)
	checkSays(t, entry("<id>"+deep+"</id>"), impl.Entry{Id: "x"})
	checkCode(t, entry("<id><b>"+deep+"</b></id>"), impl.ErrDepth)
}

func TestMadeFeedTexts(t *testing.T) {
	source := rand.New(rand.NewSource(11))
	codes := map[int]int{}
	for range 30000 {
		_, code := checkRead(t, madeText(source))
		codes[code]++
	}
	for _, code := range []int{impl.OK, impl.ErrNone, impl.ErrForm, impl.ErrRoot} {
		if codes[code] < 500 {
			t.Errorf("few texts had the code %d: %v", code, codes)
		}
	}
}

func TestEveryShortFeed(t *testing.T) {
	check := func(text string) { checkRead(t, text) }
	rss := []string{"<guid>a</guid>", "<guid/>", "<link>b</link>", "<link/>", "<author>c</author>", "<author/>", "<dc:creator>d</dc:creator>", "<description>e</description>", "<content:encoded>f</content:encoded>", "<content:encoded/>", "<pubDate>1 Jan 1970 00:00:01 UT</pubDate>", "<pubDate/>", "<pubDate>no</pubDate>", "<x>", "</x>", " "}
	piecesOf(rss, 4, func(inner string) { check(item(inner)) })
	atom := []string{"<id>a</id>", "<id/>", "<link href='b'/>", "<link/>", "<author>", "<name>c</name>", "</author>", "<content/>", "<content>d</content>", "<summary>e</summary>", "<updated>1970-01-01T00:00:01Z</updated>", "<published>1970-01-01T00:00:02Z</published>", "<updated/>", "<x>", "</x>"}
	piecesOf(atom, 4, func(inner string) { check(entry(inner)) })
	whole := []string{"<feed>", "</feed>", "<rss version='2.0'>", "<rss>", "</rss>", "<channel>", "</channel>", "<channel/>", "<title>t</title>", "<item><guid>i</guid></item>", "<entry><id>j</id></entry>", " "}
	piecesOf(whole, 5, check)
	piecesOf([]string{"<channel>", "</channel>", "<title>t</title>", "<title/>", "<item><guid>i</guid></item>", "<entry/>", "<item/>", "<feed>", "</feed>"}, 5, func(inner string) { check("<rss version='2.0'>" + inner + "</rss>") })
}

func TestChangedFeeds(t *testing.T) {
	for _, text := range []string{
		"<rss version='2.0'><channel><title>t</title><item><guid>i</guid><link>l</link><pubDate>1 Jan 1970 00:00:01 UT</pubDate></item></channel></rss>",
		"<feed><title>t</title><entry><id>i</id><link href='l'/><author><name>n</name></author><updated>1970-01-01T00:00:01Z</updated></entry></feed>",
	} {
		changed(text, func(text string) { checkRead(t, text) })
	}
}
