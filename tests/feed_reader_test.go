package tests

import (
	"fmt"
	"math/rand"
	"regexp"
	"slices"
	"strings"
	"testing"
	"time"

	"loop.example/g00268/impl"
)

// Chapter 7 once more, over the list of tokens as it stands: what ReadFeed answers is held against it.
var (
	blankRuns   = regexp.MustCompile(`[\t\n\r ]+`)
	linePattern = regexp.MustCompile(`^([^\t\n\r ]+( [^\t\n\r ]+)*)?$`)
)

func lineOf(t string) string {
	return strings.Trim(blankRuns.ReplaceAllString(t, " "), " ")
}

func rightLine(t string) bool {
	return len(t) <= 200 && ofXmlRunes(t) && linePattern.MatchString(t)
}

func rightEntry(e impl.Entry) bool {
	for _, x := range []string{e.Id, e.Title, e.Link, e.Author} {
		if !rightLine(x) {
			return false
		}
	}
	return e.Id != "" && len(e.Content) <= 1000 && ofXmlRunes(e.Content) && 0 <= e.Date && e.Date <= 4102444799
}

func rightFeed(f impl.Feed) bool {
	wrong := slices.ContainsFunc(f.Entries[:min(len(f.Entries), 21)], func(e impl.Entry) bool { return !rightEntry(e) })
	return rightLine(f.Title) && len(f.Entries) <= 20 && !wrong
}

// feedText is the text of a right feed.
func feedText(f impl.Feed) string {
	head, tail := "<rss version=\"2.0\"><channel><title>%s</title>", "</channel></rss>"
	one := "<item><guid>%s</guid><title>%s</title><link>%s</link><author>%s</author><pubDate>%s</pubDate><description>%s</description></item>"
	date := "Mon, 02 Jan 2006 15:04:05 +0000"
	if f.Atom {
		head, tail = "<feed><title>%s</title>", "</feed>"
		one = "<entry><id>%s</id><title>%s</title><link href=\"%s\"/><author><name>%s</name></author><updated>%s</updated><content>%s</content></entry>"
		date = "2006-01-02T15:04:05Z"
	}
	text := fmt.Sprintf(head, xmlEscapes.Replace(f.Title))
	for _, e := range f.Entries {
		var values []any
		for _, x := range []string{e.Id, e.Title, e.Link, e.Author, time.Unix(int64(e.Date), 0).UTC().Format(date), e.Content} {
			values = append(values, xmlEscapes.Replace(x))
		}
		text += fmt.Sprintf(one, values...)
	}
	return text + tail
}

// spansWithin is each element right within the one that is handed in, from its beginning to its end.
func spansWithin(span []impl.Token) [][]impl.Token {
	var list [][]impl.Token
	depth, from := 0, 0
	for i, x := range span {
		if x.Kind == impl.TkStart {
			if depth == 1 {
				from = i
			}
			depth++
		} else if x.Kind == impl.TkEnd {
			depth--
			if depth == 1 {
				list = append(list, span[from:i+1])
			}
		}
	}
	return list
}

// spanNamed goes over all elements once: an earlier name takes the place of a later one. It is nil if none is there.
func spanNamed(span []impl.Token, names ...string) []impl.Token {
	var found []impl.Token
	for _, x := range spansWithin(span) {
		if k := slices.Index(names, x[0].Name); k >= 0 {
			names, found = names[:k], x
		}
	}
	return found
}

func textWithin(span []impl.Token) string {
	text := ""
	for _, x := range span {
		text += x.Text
	}
	return text
}

func valueNamed(span []impl.Token, name string) string {
	if span == nil {
		return ""
	}
	for _, a := range span[0].Attrs {
		if a.Name == name {
			return a.Value
		}
	}
	return ""
}

func feedOf(text string) (impl.Feed, int) {
	list, _, code := tokensOf(text)
	if code != impl.OK {
		return impl.Feed{}, code
	}
	whole, name := list, "entry"
	if list[0].Name != "feed" {
		whole, name = spanNamed(list, "channel"), "item"
		if list[0].Name != "rss" || valueNamed(list, "version") != "2.0" || whole == nil {
			return impl.Feed{}, impl.ErrRoot
		}
	}
	f := impl.Feed{Atom: name == "entry", Title: lineOf(textWithin(spanNamed(whole, "title")))}
	if len(f.Title) > 200 {
		return impl.Feed{}, impl.ErrRange
	}
	for _, x := range spansWithin(whole) {
		if x[0].Name != name {
			continue
		}
		e, code := entryOf(x, f.Atom)
		if code == impl.OK && len(f.Entries) == 20 {
			code = impl.ErrMany
		}
		if code != impl.OK {
			return impl.Feed{}, code
		}
		f.Entries = append(f.Entries, e)
	}
	return f, impl.OK
}

func entryOf(x []impl.Token, atom bool) (impl.Entry, int) {
	line := func(names ...string) string { return lineOf(textWithin(spanNamed(x, names...))) }
	e, date, read := impl.Entry{Title: line("title")}, line("pubDate"), read822
	if atom {
		date, read = line("updated", "published"), read3339
		e.Id, e.Link = line("id"), lineOf(valueNamed(spanNamed(x, "link"), "href"))
		e.Author = lineOf(textWithin(spanNamed(spanNamed(x, "author"), "name")))
		e.Content = textWithin(spanNamed(x, "content", "summary"))
	} else {
		e.Id, e.Link, e.Author = line("guid"), line("link"), line("author", "dc:creator")
		e.Content = textWithin(spanNamed(x, "content:encoded", "description"))
	}
	if e.Id == "" {
		e.Id = e.Link
	}
	if e.Id == "" {
		return impl.Entry{}, impl.ErrNone
	}
	if date != "" {
		stamp, code := read(date)
		if code != impl.OK {
			return impl.Entry{}, code
		}
		e.Date = stamp
	}
	if !rightEntry(e) {
		return impl.Entry{}, impl.ErrRange
	}
	return e, impl.OK
}

func sameFeed(a, b impl.Feed) bool {
	return a.Atom == b.Atom && a.Title == b.Title && slices.Equal(a.Entries, b.Entries)
}

// told is a feed or an entry as a message tells it.
func told(x any) string {
	return fmt.Sprintf("%.400s", fmt.Sprintf("%+q", fmt.Sprintf("%.2000s", fmt.Sprint(x))))
}

// checkRead holds what a text says against the other reader; it says the feed and the code.
func checkRead(t *testing.T, text string) (impl.Feed, int) {
	t.Helper()
	want, wantCode := feedOf(text)
	f, code := impl.ReadFeed(text)
	if !sameFeed(f, want) || code != wantCode {
		t.Errorf("ReadFeed(%.400q) = %s, %d, not %s, %d", text, told(f), code, told(want), wantCode)
	}
	if code == impl.OK {
		checkFeed(t, f)
	}
	return f, code
}

// checkFeed asks all of chapter 7 for a feed, right or not, in both forms, and promise 7 of it; it says FeedText's code in its own form.
func checkFeed(t *testing.T, f impl.Feed) int {
	t.Helper()
	for _, e := range f.Entries[:min(len(f.Entries), 30)] {
		if got := impl.EntryOK(e); got != rightEntry(e) {
			t.Errorf("EntryOK(%s) is %v", told(e), got)
		}
	}
	right := rightFeed(f)
	if got := impl.FeedOK(f); got != right {
		t.Errorf("FeedOK(%s) is %v", told(f), got)
	}
	checkKeys(t, f, right)
	code := checkFeedText(t, f, right)
	f.Atom = !f.Atom
	checkFeedText(t, f, right)
	return code
}

func checkKeys(t *testing.T, f impl.Feed, right bool) {
	t.Helper()
	var want []string
	wantCode := impl.ErrBad
	if right {
		wantCode = impl.OK
		for i, e := range f.Entries {
			if !slices.ContainsFunc(f.Entries[:i], func(x impl.Entry) bool { return x.Id == e.Id }) {
				want = append(want, e.Id)
			}
		}
	}
	if keys, code := impl.FeedKeys(f); !slices.Equal(keys, want) || code != wantCode {
		t.Errorf("FeedKeys(%s) = %.300q, %d, not %.300q, %d", told(f), keys, code, want, wantCode)
	}
}

func checkFeedText(t *testing.T, f impl.Feed, right bool) int {
	t.Helper()
	want, wantCode := "", impl.ErrBad
	if right {
		want, wantCode = feedText(f), impl.OK
	}
	if len(want) > impl.MaxText {
		want, wantCode = "", impl.ErrFull
	}
	text, code := impl.FeedText(f)
	if text != want || code != wantCode {
		t.Errorf("FeedText(%s) = %.400q, %d, not %.400q, %d", told(f), text, code, want, wantCode)
	}
	if wantCode != impl.OK {
		return code
	}
	if back, code := impl.ReadFeed(want); !sameFeed(back, f) || code != impl.OK {
		t.Errorf("the feed %s is read back as %s, %d", told(f), told(back), code)
	}
	return code
}

// lineBytes is a line of so many bytes, none of them beside another of its kind.
func lineBytes(n int) string {
	return strings.Repeat("l.", n)[:n]
}

// longLine has one byte too many.
var longLine = lineBytes(impl.MaxField + 1)

// madeLine is a line of all sorts of things, by a rule.
func madeLine(source *rand.Rand) string {
	switch source.Intn(12) {
	case 0:
		return ""
	case 1:
		return lineBytes(impl.MaxField)
	case 2:
		return strings.Repeat("\"", impl.MaxField)
	}
	var list []string
	for range 1 + source.Intn(5) {
		list = append(list, []string{"a", "word", "&", "<b>", "&amp;", "'", "\"", "]]>", "<![CDATA[", "\u00e4", "\u20ac\U0001f600", "\u00a0", "\ufffd", "http://x/?a=1&b=2", "=?", "\x7f"}[source.Intn(16)])
	}
	return strings.Join(list, " ")
}

func madeContent(source *rand.Rand) string {
	switch source.Intn(10) {
	case 0:
		return ""
	case 1:
		return string(fromSigns("&<>\"'\r\n\t a;#]", impl.MaxContent, source.Intn(100)))
	}
	text := ""
	for range source.Intn(8) {
		text += []string{" ", "\n", "\r", "\r\n", "\t", "x", "plain words", "<p>", "</p>", "&", "&lt;", "]]>", "\u20ac", "<!--", "\"'"}[source.Intn(15)]
	}
	return text
}

func madeFeed(source *rand.Rand) impl.Feed {
	f := impl.Feed{Atom: source.Intn(2) == 0, Title: madeLine(source)}
	for range source.Intn(6) * source.Intn(5) {
		e := impl.Entry{Id: madeLine(source), Title: madeLine(source), Link: madeLine(source), Author: madeLine(source), Content: madeContent(source)}
		if e.Id == "" {
			e.Id = "i"
		}
		if source.Intn(4) > 0 {
			e.Date = source.Intn(impl.MaxStamp + 1)
		}
		f.Entries = append(f.Entries, e)
	}
	return f
}

// madeText is what others may write: a text of elements of both forms' names, in any order and at any depth.
func madeText(source *rand.Rand) string {
	root, inner := "feed", "entry"
	if source.Intn(2) == 0 {
		root, inner = "rss", "item"
	}
	text := ""
	for range source.Intn(5) {
		text += madePiece(source, inner, 3)
	}
	switch {
	case root == "feed":
		return "<feed" + oneOf(source, "", " xmlns='http://www.w3.org/2005/Atom'", " version='0'") + ">" + text + "</feed>"
	case source.Intn(20) > 0:
		text = oneOf(source, "", "<title>no</title>", "<item/>", " ") + "<channel>" + text + "</channel>" + oneOf(source, "", "", "<channel><item/></channel>", "<item/>")
	}
	return "<rss" + oneOf(source, " version='2.0'", " version=\"2.0\" x=''", " a='1' version='2.0'", " version='2.0'", " version='2.0'", " version='2.0'", " version='2.0 '", "") + ">" + text + "</rss>"
}

func oneOf(source *rand.Rand, list ...string) string { return list[source.Intn(len(list))] }

// madePiece is something within an element; more often than others an entry, of that name, that has an Id.
func madePiece(source *rand.Rand, entry string, depth int) string {
	name := oneOf(source, "title", "link", "author", "dc:creator", "guid", "content:encoded", "description", "pubDate", "name", "id", "content", "summary", "updated", "published", "other", "channel", "item", "entry", "Title", "x:title")
	text := ""
	if depth == 3 && source.Intn(4) > 0 {
		name = entry
		text = oneOf(source, "<guid>g</guid><id>i</id>", "<id> i\n2 </id><guid>\tg<b>3</b></guid>", "<link href=' l '>m</link>", "<id/><guid></guid><link href='h'> r </link>", "")
	}
	for range source.Intn(6) {
		if depth > 0 && source.Intn(2) == 0 {
			text += madePiece(source, entry, depth-1)
		} else {
			text += oneOf(source, "x", " ", "\n\t", "a  b", "\r\n", "&amp;", "&#13;", "&#32;", "<!-- n -->", "<?n?>", "<![CDATA[ <b>&amp; ]]>", "<![CDATA[]]>", "\u20ac")
		}
	}
	switch {
	case (name == "updated" || name == "published") && source.Intn(3) > 0:
		text = oneOf(source, "2020-01-02T03:04:05Z", " 1970-01-01T00:00:00.5+00:00\n", "", " ")
	case name == "pubDate" && source.Intn(3) > 0:
		text = oneOf(source, "Thu, 02 Jan 2020 03:04:05 +0000", " 2  Jan\n1970 03:04:05 UT ", "", "\t")
	}
	return "<" + name + oneOf(source, "", "", " href='h'", " HREF='n' href=\" h  i \"", " type='text'") + ">" + text + "</" + name + ">"
}
