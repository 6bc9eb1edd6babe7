package tests

import (
	"hash/crc32"
	"io"
	"math"
	"math/rand"
	"mime"
	"mime/quotedprintable"
	"net/mail"
	"slices"
	"strconv"
	"strings"
	"testing"

	"loop.example/g00268/impl"
)

func TestCheck32(t *testing.T) {
	for x, want := range map[string]int{
		"": 0, "a": 0xe8b7be43, "abc": 0x352441c2, "123456789": 0xcbf43926, "The quick brown fox jumps over the lazy dog": 0x414fa339,
		"\x00": 0xd202ef8d, "\x00\x00\x00\x00": 0x2144df1c, "\xff": 0xff000000, "\xff\xff\xff\xff": 0xffffffff,
	} {
		if got := impl.Check32([]byte(x)); got != want {
			t.Errorf("Check32(%q) = %x, not %x", x, got, want)
		}
	}
	for c := range 256 {
		for _, b := range [][]byte{{byte(c)}, {0, byte(c)}, {byte(c), 255, byte(c)}, slices.Repeat([]byte{byte(c)}, c)} {
			if got := impl.Check32(b); got != int(crc32.ChecksumIEEE(b)) {
				t.Errorf("Check32(%q) = %x", b, got)
			}
		}
	}
	for n := range 600 {
		if b := madeBytes(n, n); impl.Check32(b) != int(crc32.ChecksumIEEE(b)) {
			t.Errorf("Check32 of %d bytes", n)
		}
	}
}

func TestCheck32OfMaxText(t *testing.T) {
	for _, n := range []int{impl.MaxText - 1, impl.MaxText} {
		for _, b := range [][]byte{madeBytes(n, n), make([]byte, n), slices.Repeat([]byte{255}, n)} {
			if got := impl.Check32(b); got != int(crc32.ChecksumIEEE(b)) {
				t.Errorf("Check32 of %d bytes is %x", n, got)
			}
		}
	}
	for _, b := range [][]byte{madeBytes(impl.MaxText+1, 1), make([]byte, impl.MaxText+1), []byte(endlessText)} {
		if got := impl.Check32(b); got != 0 {
			t.Errorf("Check32 of %d bytes is %x", len(b), got)
		}
	}
}

func checkMailOK(t *testing.T, x string, want bool) {
	t.Helper()
	if got := impl.MailOK(x); got != want || rightMail(x) != want {
		t.Errorf("MailOK(%q) of %d is %v", brief(x), len(x), got)
	}
}

func TestMailLinesOfSigns(t *testing.T) {
	for _, x := range []string{"", "\r\n", "\r\n\r\n", "a\r\n", "a\r\nb\r\n", "\t\r\n", " \r\n", "\x01\x7f\r\n", "\x0b\x0c\r\n", ".\r\n", "X: y\r\n\r\nz\r\n"} {
		checkMailOK(t, x, true)
	}
	for _, x := range []string{"a", "\r", "\n", "a\r", "a\n", "\n\r", "a\n\r", "\r\r\n", "a\r\r\n", "\n\r\n", "a\n\r\n", "\r\n\n", "\r\n\r", "a\r\nb", "a\r\nb\n", "a\rb\r\n", "a\nb\r\n", "\x00\r\n", "\x80\r\n", "\xff\r\n", "\u00e4\r\n", "a\r\n\x00", "\r\na"} {
		checkMailOK(t, x, false)
	}
	for c := range 256 {
		one := string([]byte{byte(c)})
		want := c >= 1 && c <= 127 && c != 10 && c != 13
		for _, x := range []string{one + "\r\n", "a" + one + "\r\n", one + "a\r\n", "\r\n" + one + "\r\n", "a\r\nb" + one + "c\r\nd\r\n", strings.Repeat("x", 997) + one + "\r\n", one + strings.Repeat("x", 997) + "\r\n"} {
			checkMailOK(t, x, want)
		}
		checkMailOK(t, "a\r\n"+one, false)
		checkMailOK(t, one, false)
		checkMailOK(t, strings.Repeat("x", 998)+one+"\r\n", false)
	}
	for n := range 8 {
		signsOf("\r\na \x00", n, func(x string) { checkMailOK(t, x, rightMail(x)) })
	}
}

func TestMailLineLengths(t *testing.T) {
	for n := range 1100 {
		line := strings.Repeat("x", n) + "\r\n"
		for _, x := range []string{line, "a\r\n" + line, line + "a\r\n", line + line, "\r\n" + line + "\r\n", strings.Repeat("\t", n) + "\r\n", strings.Repeat("\x7f", n) + "\r\n"} {
			checkMailOK(t, x, n <= 998)
		}
	}
	full := strings.Repeat(strings.Repeat("x", 998)+"\r\n", 65)
	checkMailOK(t, full, true)
	checkMailOK(t, full+strings.Repeat("y", impl.MaxText-len(full)-2)+"\r\n", true)
	checkMailOK(t, full+strings.Repeat("y", impl.MaxText-len(full)-1)+"\r\n", false)
	checkMailOK(t, strings.Repeat("\r\n", impl.MaxText/2), true)
	checkMailOK(t, strings.Repeat("\r\n", impl.MaxText/2-1)+"\r\r", false)
	checkMailOK(t, strings.Repeat("\r\n", impl.MaxText/2)+"\r\n", false)
	for _, x := range []string{fullText, longText, endlessText, full + full, strings.Repeat("\r\n", impl.MaxText)} {
		checkMailOK(t, x, false)
	}
}

// otherFields are those of a mail that no entry changes.
const otherFields = "MIME-Version: 1.0\r\nContent-Type: text/plain; charset=utf-8\r\nContent-Transfer-Encoding: quoted-printable\r\n\r\n"

func TestRenderedEntries(t *testing.T) {
	long := strings.Repeat("x", 200)
	for text, e := range map[string]impl.Entry{
		"From: \r\nDate: Thu, 01 Jan 1970 00:00:00 +0000\r\nSubject: \r\nMessage-ID: <3904355907@b>\r\nX-Id: a\r\nX-Link: \r\n" + otherFields + "\r\n":                                                                                                                                      {Id: "a"},
		"From: who <w@x>\r\nDate: Thu, 31 Dec 2099 23:59:59 +0000\r\nSubject: a & b\r\nMessage-ID: <3904355907@b>\r\nX-Id: a\r\nX-Link: http://x/?a=1\r\n" + otherFields + "one\r\n":                                                                                                        {Id: "a", Title: "a & b", Link: "http://x/?a=1", Author: "who <w@x>", Date: impl.MaxStamp, Content: "one"},
		"From: =?utf-8?B?w6Q=?=\r\nDate: Thu, 01 Jan 1970 00:00:01 +0000\r\nSubject: =?utf-8?B?YSDigqw=?=\r\nMessage-ID: <3904355907@b>\r\nX-Id: a\r\nX-Link: =?utf-8?B?PT8=?=\r\n" + otherFields + "\r\n\r\n":                                                                              {Id: "a", Title: "a \u20ac", Link: "=?", Author: "\u00e4", Date: 1, Content: "\n"},
		"From: " + long + "\r\nDate: Thu, 01 Jan 1970 00:00:00 +0000\r\nSubject: " + strings.Repeat("word ", 13) + "word\r\n word\r\nMessage-ID: <3904355907@b>\r\nX-Id: a\r\nX-Link: " + long[:100] + "\r\n " + long[:99] + "\r\n" + otherFields + "=0D\r\n..=20\r\na =3D b=0D\r\n=09\r\n": {Id: "a", Title: strings.Repeat("word ", 14) + "word", Author: long, Link: long[:100] + " " + long[:99], Content: "\r\n.. \na = b\r\n\t"},
	} {
		if got, code := impl.RenderEntry(e, "b"); got != text || code != impl.OK {
			t.Errorf("RenderEntry(%s) = %q, %d, not %q", told(e), got, code, text)
		}
		checkRendered(t, e, "b")
	}
	if sum := crc32.ChecksumIEEE([]byte("a")); sum != 3904355907 {
		t.Error("the sum of these is", sum)
	}
}

// Each text here is in one line.
func someLines() []string {
	return []string{
		"a", "a b", "=", "=?", "?=", "=?utf-8?B?w6Q=?=", "a =?utf-8?B?w6Q=?= b", "=?utf-8?q?a?=", ":", "a: b", "From: x", "<a@b>", "\"a\" <b>", ".", "..", "\x7f", "a\x7fb", "\u0080", "\u00e4", "a \u00e4", "\u00e4 a \u20ac b", "\U0001f600", "\u00a0", "\u2028", "\ufeff", "\ufffd", "=3D", "0", "-",
		lineBytes(199), lineBytes(200), strings.Repeat("x", 200), strings.Repeat("x ", 99) + "xy", strings.Repeat("=", 200), strings.Repeat("=?", 100), strings.Repeat("\u00e4", 100), strings.Repeat("\u20ac", 66), strings.Repeat("\u20ac", 66) + "ab", strings.Repeat("\U0010ffff", 50), strings.Repeat("\u00e4 ", 66) + "ab", "a" + strings.Repeat("\U0001f600", 49), strings.Repeat("\x7f", 200), "x " + strings.Repeat("\u20ac", 60),
		strings.Repeat("w", 45) + " \u00e4", strings.Repeat("w", 44) + "\u00e4", strings.Repeat("w", 43) + "\u20ac\u20ac", strings.Repeat("y", 70), strings.Repeat("y", 78), strings.Repeat("y", 60) + " " + strings.Repeat("z", 60),
	}
}

func TestRenderedLines(t *testing.T) {
	for _, x := range someLines() {
		for k := range 4 {
			if code := checkRendered(t, withLine(k, x), "news"); code != impl.OK {
				t.Errorf("RenderEntry with the line %q has the code %d", x, code)
			}
		}
		all := impl.Entry{Id: x, Title: x, Link: x, Author: x, Date: len(x), Content: x}
		if code := checkRendered(t, all, "N_9"); code != impl.OK {
			t.Errorf("RenderEntry with the lines %q has the code %d", x, code)
		}
	}
	for k := 1; k < 4; k++ {
		checkRendered(t, withLine(k, ""), "news")
	}
	// Words of each length, at the places at which a field is folded.
	for n := range 130 {
		checkRendered(t, withLine(n%4, "a "+strings.Repeat("w", n+1)+" b"), "news")
		checkRendered(t, withLine((n+1)%4, strings.Repeat("\u00e4", n%100+1)), "news")
	}
}

func someContents() []string {
	return []string{
		"", "a", "\n", "\n\n", "\n\n\n", "\na", "a\n", "\na\n", "a\nb", "a\n\nb", "a\n\n\nb\n\n", "\r", "\r\r", "\r\n", "\r\n\r\n", "a\r\nb", "a\r\n", "\r\na", "\r\r\n", "a\r\r\nb", "\n\r", "\n\r\n", "a\n\rb", "a\r", "\ra", "a\rb", "\r\n\n", "\n\n\r",
		" ", "  ", " \n", "a \nb", "a  \n", "\t", "\t\n", "a\t\nb ", " \r\n", " a", "a ", " \n ", ".", "..", ".\n.", ".a\n..b\n", "\n.\n", "\r\n.\r\n", "=", "=\n", "a=\nb", "=3D", "=0D=0A", "=\r\n", "a = b\n", "From: a\n\nb", "-- \n",
		"\u00e4", "\u00e4\n\u20ac", "a\u00e4 \n", "\U0001f600\r", "\x7f", "\u0080", "\ufffd", "\U0010ffff", "<p>&amp;</p>",
		strings.Repeat("a", 75), strings.Repeat("a", 76), strings.Repeat("a", 77), strings.Repeat("a", 74) + " \n", strings.Repeat("a", 75) + " \n", strings.Repeat("a", 73) + "\u00e4\n", strings.Repeat("a", 76) + "\nb", strings.Repeat("a", 75) + "\r\nb",
		strings.Repeat("a", 999), strings.Repeat("a", 1000), strings.Repeat("\n", 1000), strings.Repeat("\r", 1000), strings.Repeat("\r\n", 500), strings.Repeat("=", 1000), strings.Repeat(" ", 1000), strings.Repeat("\u00e4", 500), strings.Repeat("\u20ac", 333) + "\n", strings.Repeat("\U0010ffff", 250), strings.Repeat(".\n", 500), strings.Repeat(" \n", 500), strings.Repeat("=\n", 500), strings.Repeat("\n\r", 500), strings.Repeat("\u20ac\n", 250), strings.Repeat(strings.Repeat("a", 76)+"\n", 12),
	}
}

func TestRenderedContents(t *testing.T) {
	e := plainEntry
	for _, e.Content = range someContents() {
		if code := checkRendered(t, e, "news"); code != impl.OK {
			t.Errorf("RenderEntry with the Content %q has the code %d", brief(e.Content), code)
		}
	}
	for n := range 6 {
		signsOf("\r\n .=a", n, func(x string) {
			e.Content = x
			checkRendered(t, e, "news")
		})
	}
	// A line that goes on, at each place of what ends it.
	for n := range 90 {
		for _, end := range []string{"\n", "\r\n", " \n", "\r", "=", "=\n", "\u00e4", "\t\n", " ", ".\n."} {
			e.Content = strings.Repeat("a", n) + end
			checkRendered(t, e, "news")
			e.Content += strings.Repeat("b", n)
			checkRendered(t, e, "news")
		}
	}
}

func TestRenderedRunes(t *testing.T) {
	for r := range 0x110000 {
		if r > 0x400 && r < 0xd700 && r%0x61 > 0 || r > 0x10100 && r < 0x10fff0 && r%0x1001 > 0 || !xmlRune(r) {
			continue
		}
		x := shortest(r)
		checkRendered(t, impl.Entry{Id: "i", Content: x}, "b")
		checkRendered(t, impl.Entry{Id: "a" + x + "b", Author: x, Title: x + " a", Content: "a" + x + "\n" + x + x}, "b")
	}
}

func TestRenderedDatesAndBoxes(t *testing.T) {
	e := plainEntry
	for _, e.Date = range []int{0, 1, 59, 86399, 86400, 951782400, 951786123, 1577934245, impl.MaxStamp - 1, impl.MaxStamp} {
		if code := checkRendered(t, e, "news"); code != impl.OK {
			t.Errorf("RenderEntry with the Date %d has the code %d", e.Date, code)
		}
	}
	for _, box := range []string{"a", "Z", "_", "news", "News_9", "a9", strings.Repeat("n", 39), strings.Repeat("n", 40)} {
		if code := checkRendered(t, plainEntry, box); code != impl.OK {
			t.Errorf("RenderEntry for the box %q has the code %d", box, code)
		}
	}
	for _, box := range []string{"", "9", "9a", "a b", " a", "a ", "a-b", "a.b", "a@b", "a>", "\u00e4", "a\xff", "a\r\n", "\x00", strings.Repeat("n", 41), strings.Repeat("n", impl.MaxText)} {
		for _, e := range []impl.Entry{plainEntry, {}} {
			if code := checkRendered(t, e, box); code != impl.ErrBad {
				t.Errorf("RenderEntry for the box %q has the code %d", brief(box), code)
			}
		}
	}
	// A box that is too long is told ahead of an entry that is not right.
	for _, box := range []string{longText, endlessText} {
		for _, e := range []impl.Entry{plainEntry, {}, {Id: longText}} {
			if code := checkRendered(t, e, box); code != impl.ErrLong {
				t.Errorf("RenderEntry for a box of %d has the code %d", len(box), code)
			}
		}
	}
}

func TestWrongEntriesOfMails(t *testing.T) {
	list := []impl.Entry{{}, {Title: "t"}, {Id: "i", Date: -1}, {Id: "i", Date: impl.MaxStamp + 1}, {Id: "i", Date: math.MinInt}, {Id: "i", Date: math.MaxInt}, withLine(0, "")}
	for _, x := range []string{" ", "a ", " a", "a  b", "a\tb", "a\nb", "a\r\nb: c", "\x00", "a\x1f", "\xff", "\ufffe", longLine, strings.Repeat("\u20ac", 67), fullText, longText, endlessText} {
		for k := range 4 {
			list = append(list, withLine(k, x))
		}
	}
	for _, x := range []string{"\x00", "\x0b", "\x1f", "\xff", "a\xe2\x82", "\uffff", strings.Repeat("a", 1001), strings.Repeat("\n", 1001), strings.Repeat("\u20ac", 334), longText, endlessText} {
		list = append(list, impl.Entry{Id: "i", Content: x})
	}
	for _, e := range list {
		for _, box := range []string{"news", "9"} {
			if code := checkRendered(t, e, box); code != impl.ErrBad {
				t.Errorf("RenderEntry of %s has the code %d", told(e), code)
			}
		}
	}
}

func TestMadeEntries(t *testing.T) {
	source := rand.New(rand.NewSource(12))
	for range 4000 {
		checkRendered(t, madeEntry(source), oneOf(source, "a", "news", "_9", strings.Repeat("n", 40)))
	}
}

// What the library finds in a mail is the entry, too.
func TestMailsOfTheLibrary(t *testing.T) {
	source := rand.New(rand.NewSource(13))
	list := []impl.Entry{plainEntry, {Id: "i"}}
	for range 1500 {
		list = append(list, madeEntry(source))
	}
	for _, x := range someContents() {
		list = append(list, impl.Entry{Id: "i", Content: x})
	}
	for _, e := range list {
		text, _ := impl.RenderEntry(e, "news")
		m, err := mail.ReadMessage(strings.NewReader(text))
		if err != nil {
			t.Fatalf("the library does not read %q: %v", text, err)
		}
		for name, want := range map[string]string{"From": e.Author, "Subject": e.Title, "X-Id": e.Id, "X-Link": e.Link} {
			if got, err := new(mime.WordDecoder).DecodeHeader(m.Header.Get(name)); got != want || err != nil {
				t.Errorf("the library has the field %s %q, %v, not %q", name, got, err, want)
			}
		}
		if date, err := m.Header.Date(); err != nil || date.Unix() != int64(e.Date) {
			t.Errorf("the library has the date %v, %v, not %d", date, err, e.Date)
		}
		kind, parameters, err := mime.ParseMediaType(m.Header.Get("Content-Type"))
		if kind != "text/plain" || parameters["charset"] != "utf-8" || err != nil || m.Header.Get("Content-Transfer-Encoding") != "quoted-printable" || m.Header.Get("MIME-Version") != "1.0" {
			t.Errorf("the library has other fields: %v, %v", m.Header, err)
		}
		body, err := io.ReadAll(quotedprintable.NewReader(m.Body))
		if want := strings.ReplaceAll(e.Content, "\n", "\r\n") + "\r\n"; string(body) != want || err != nil {
			t.Errorf("the library has the body %q, %v, not %q", body, err, want)
		}
	}
}

// rightFields are those of a mail of an entry, as others write it.
func rightFields() []string {
	return []string{"From: a\r\n", "Date: 2 Jan 2020 03:04:05 UT\r\n", "Subject: b\r\n", "X-Id: c\r\n", "X-Link: d\r\n"}
}

var rightSaid = impl.Entry{Id: "c", Title: "b", Link: "d", Author: "a", Date: 1577934245, Content: "e"}

func checkMailSays(t *testing.T, text string, want impl.Entry) {
	t.Helper()
	if e, code := impl.MailEntry(text); e != want || code != impl.OK {
		t.Errorf("MailEntry(%.400q) = %s, %d, not %s", text, told(e), code, told(want))
	}
	checkMail(t, text)
}

func checkMailCode(t *testing.T, text string, parsed, entryCode int) {
	t.Helper()
	if code, got := checkMail(t, text); code != parsed || got != entryCode {
		t.Errorf("%.400q has the codes %d, %d, not %d, %d", text, code, got, parsed, entryCode)
	}
}

func TestMailsOfOthers(t *testing.T) {
	fields := rightFields()
	small := strings.NewReplacer("From", "from", "Date", "date", "Subject", "subject", "X-Id", "x-id", "X-Link", "x-link")
	for _, order := range [][]int{{0, 1, 2, 3, 4}, {4, 3, 2, 1, 0}, {2, 0, 4, 1, 3}, {3, 4, 0, 2, 1}} {
		head, between := "", ""
		for i, k := range order {
			head += fields[k]
			between += fields[k] + "Other-" + strconv.Itoa(i) + ": x\r\n"
		}
		for _, head := range []string{head, between, small.Replace(head), "Received: by x\r\n for y\r\n" + head, head + "MIME-Version: 9\r\nContent-Type: text/html\r\n", head + strings.Join(fields, "")} {
			checkMailSays(t, head+"\r\ne\r\n", rightSaid)
		}
	}
	head := strings.Join(fields, "")
	great := strings.NewReplacer("From", "FROM", "Date", "dATE", "Subject", "sUBJECT", "X-Id", "x-iD", "X-Link", "X-LINK").Replace(head)
	checkMailSays(t, great+"\r\ne\r\n", rightSaid)
	// Of a name that is there twice the first counts.
	for _, f := range []string{"From: z\r\n", "from: \r\n", "DATE: no\r\n", "Subject: " + wordsOf(900, 60) + "\r\n", "X-ID: \r\n", "x-link: =?utf-8?B?AA==?=\r\n"} {
		checkMailSays(t, head+f+"\r\ne\r\n", rightSaid)
	}
	said := rightSaid
	said.Title = "z y"
	checkMailSays(t, "SUBJECT: z\r\n y\r\n"+head+"\r\ne\r\n", said)
	checkMailCode(t, "DATE: no\r\n"+head+"\r\ne\r\n", impl.OK, impl.ErrForm)
	checkMailCode(t, "x-id: \r\n"+head+"\r\ne\r\n", impl.OK, impl.ErrForm)
	// What stands in the body, or in a value, is no field.
	said = rightSaid
	said.Content = "\nSubject: y\n\nz"
	checkMailSays(t, head+"\r\n\r\nSubject: y\r\n\r\nz\r\n", said)
	checkMailSays(t, "Other: Subject: y\r\n X-Id: z\r\n"+head+"\r\ne\r\n", rightSaid)
}

func TestFoldedFieldsOfOthers(t *testing.T) {
	said := rightSaid
	said.Title, said.Author, said.Link, said.Id = "b c d", "\u00e4\u20ac x", "=?utf-8?B?w6Q?=", "i \u00e4"
	text := "From: =?utf-8?B?w6Q=?=\r\n =?utf-8?B?4oKs?=\r\n x\r\nDate: Thu,\r\n 02 Jan 2020\r\n 03:04:05 +0000\r\nSubject: b\r\n c\r\n d\r\nX-Id: i =?utf-8?B?w6Q=?=\r\nX-Link: =?utf-8?B?w6Q?=\r\n\r\ne\r\n"
	checkMailSays(t, text, said)
	m, code := impl.ParseMail(text)
	want := []impl.Field{{Name: "From", Value: "=?utf-8?B?w6Q=?= =?utf-8?B?4oKs?= x"}, {Name: "Date", Value: "Thu, 02 Jan 2020 03:04:05 +0000"}, {Name: "Subject", Value: "b c d"}, {Name: "X-Id", Value: "i =?utf-8?B?w6Q=?="}, {Name: "X-Link", Value: "=?utf-8?B?w6Q?="}}
	if !slices.Equal(m.Fields, want) || m.Body != "e\r\n" || code != impl.OK {
		t.Errorf("ParseMail(%q) = %s, %d", text, told(m), code)
	}
	// A fold ahead of each word, and none at all.
	checkMailCode(t, "X:"+strings.Repeat(" w", 498)+"\r\n\r\n", impl.OK, impl.ErrNone)
	checkMailCode(t, "X:"+strings.Repeat(" w", 499)+"\r\n\r\n", impl.ErrForm, impl.ErrForm)
	checkMailCode(t, "X: aa"+strings.Repeat("\r\n w", 999)+"\r\n\r\n", impl.OK, impl.ErrNone)
	checkMailCode(t, "X: aaa"+strings.Repeat("\r\n w", 999)+"\r\n\r\n", impl.ErrForm, impl.ErrForm)
	checkMailCode(t, "X: "+strings.Repeat("w", 200)+"\r\n\r\n", impl.OK, impl.ErrNone)
	checkMailCode(t, "X: "+strings.Repeat("w", 201)+"\r\n\r\n", impl.ErrForm, impl.ErrForm)
	checkMailCode(t, "X: "+wordsOf(995, 60)+"\r\n\r\n", impl.OK, impl.ErrNone)
	checkMailCode(t, "X: "+wordsOf(996, 60)+"\r\n\r\n", impl.ErrForm, impl.ErrForm)
	checkMailCode(t, strings.Repeat("n", 40)+": w\r\n\r\n", impl.OK, impl.ErrNone)
	checkMailCode(t, strings.Repeat("n", 41)+": w\r\n\r\n", impl.ErrForm, impl.ErrForm)
}

func TestParsedMails(t *testing.T) {
	for text, want := range map[string]impl.Mail{
		"\r\n": {}, "\r\n\r\n": {Body: "\r\n"}, "\r\na\r\n": {Body: "a\r\n"}, "\r\nX: y\r\n\r\n": {Body: "X: y\r\n\r\n"}, "\r\n\t\x01\x7f\r\n": {Body: "\t\x01\x7f\r\n"},
		"X: y\r\n\r\n": {Fields: []impl.Field{{Name: "X", Value: "y"}}}, "X: y\r\n\r\n\r\n": {Fields: []impl.Field{{Name: "X", Value: "y"}}, Body: "\r\n"}, "X: \r\n\r\na\r\n\r\nb\r\n": {Fields: []impl.Field{{Name: "X"}}, Body: "a\r\n\r\nb\r\n"},
		"X: y\r\nx: z\r\nX: y\r\n\r\n": {Fields: []impl.Field{{Name: "X", Value: "y"}, {Name: "x", Value: "z"}, {Name: "X", Value: "y"}}}, "X: a\r\n b\r\n c: d\r\nY: \r\n\r\n e\r\n": {Fields: []impl.Field{{Name: "X", Value: "a b c: d"}, {Name: "Y"}}, Body: " e\r\n"},
		"!~: : =?\r\n\r\n": {Fields: []impl.Field{{Name: "!~", Value: ": =?"}}},
	} {
		m, code := impl.ParseMail(text)
		if !sameMail(m, want) || code != impl.OK {
			t.Errorf("ParseMail(%q) = %s, %d, not %s", text, told(m), code, told(want))
		}
		checkMailCode(t, text, impl.OK, impl.ErrNone)
	}
}

func TestWrongMails(t *testing.T) {
	head := strings.Join(rightFields(), "")
	for _, text := range []string{
		// Without an empty line.
		"", "X: y\r\n", head, "X: y\r\n z\r\n", "X: y\r\n \r\n", "X: y\r\n\t\r\n", "a\r\n", "X: y", "\r", "\n", "\r\r", "\n\n", "X: y\n\n", "X: y\r\n\n", "X: y\r\n\r", "X: y\r\r", "X: y\n\r\n",
		// A line that is no field.
		"no field\r\n\r\n", ": y\r\n\r\n", "X:y\r\n\r\n", "X:\r\n\r\n", "X\r\n\r\n", "X : y\r\n\r\n", "X y: z\r\n\r\n", "X:  y\r\n\r\n", "X: y \r\n\r\n", "X: a  b\r\n\r\n", "X: a\tb\r\n\r\n", "X\t: a\r\n\r\n", "X: \x7f\r\n\r\n", "X: \x01\r\n\r\n", "X: y\r\nno\r\n\r\n", "X: y\r\n\tz\r\n\r\n", "X: y\r\nz\r\n\r\n", head + "no\r\n\r\ne\r\n", "no\r\n" + head + "\r\ne\r\n", "X:\ty\r\n\r\n",
		// A fold that is none.
		" X: y\r\n\r\n", " y\r\n\r\n", " \r\n\r\n", " \r\nX: y\r\n\r\n", "X: y\r\n \r\n\r\n", "X: y\r\n  z\r\n\r\n", "X: y \r\n z\r\n\r\n", "X: \r\n y\r\n\r\n", "X:\r\n y\r\n\r\n", "X: y\r\n z \r\n\r\n", "X: y\r\n \r\n z\r\n\r\n", "X: y\r\n z\r\n \r\n\r\n", "X: y\r\n\t z\r\n\r\n", "X\r\n : y\r\n\r\n",
		// Not MailOK, in the header and in the body.
		"X: \u00e4\r\n\r\n", "X: \x00\r\n\r\n", "X: a\rb\r\n\r\n", "X: a\nb\r\n\r\n", "X: y\r\n\r\na", "X: y\r\n\r\na\n", "X: y\r\n\r\na\r", "X: y\r\n\r\na\nb\r\n", "X: y\r\n\r\na\rb\r\n", "X: y\r\n\r\n\x00\r\n", "X: y\r\n\r\n\x80\r\n", "X: y\r\n\r\n\u00e4\r\n", "X: y\r\n\r\n" + strings.Repeat("x", 999) + "\r\n", head + "\r\ne", head + "\r\ne\n", head + "\r\ne\x00\r\n", "\r\na", "\r\n\r", "\r\n\n", "\r\r\n", "\n\r\n",
	} {
		checkMailCode(t, text, impl.ErrForm, impl.ErrForm)
		checkMailPart(t, text, "HEADER", "", impl.ErrForm)
		if n, code := impl.MailLines(text); n != 0 || code != impl.ErrForm {
			t.Errorf("MailLines(%q) = %d, %d", text, n, code)
		}
	}
	checkMailCode(t, "X: y\r\n\r\n"+strings.Repeat("x", 998)+"\r\n", impl.OK, impl.ErrNone)
	checkMailSays(t, head+"\r\n"+strings.Repeat("x", 998)+"\r\n", impl.Entry{Id: "c", Title: "b", Link: "d", Author: "a", Date: 1577934245, Content: strings.Repeat("x", 998)})
}

// manyFields is so many fields, the entry's five behind the others.
func manyFields(n int) string {
	return strings.Repeat("X: y\r\n", n-5) + strings.Join(rightFields(), "")
}

func TestManyFields(t *testing.T) {
	for n := 5; n < 50; n++ {
		text := manyFields(n) + "\r\ne\r\n"
		if n <= 40 {
			checkMailSays(t, text, rightSaid)
			checkMailPart(t, text, "TEXT", "e\r\n", impl.OK)
			m, code := impl.ParseMail(text)
			if len(m.Fields) != n || code != impl.OK {
				t.Errorf("ParseMail of %d fields has %d, %d", n, len(m.Fields), code)
			}
			continue
		}
		checkMailCode(t, text, impl.ErrForm, impl.ErrForm)
		checkMailPart(t, text, "TEXT", "", impl.ErrForm)
		checkMailPart(t, text, "", "", impl.ErrForm)
	}
	// A folded field is one.
	text := strings.Repeat("X: y\r\n z\r\n", 40) + "\r\n"
	checkMailCode(t, text, impl.OK, impl.ErrNone)
	checkMailCode(t, "X: y\r\n"+text, impl.ErrForm, impl.ErrForm)
	checkMailCode(t, strings.Repeat("X: y\r\n", 10000)+"\r\n", impl.ErrForm, impl.ErrForm)
}

func TestFieldsOfMails(t *testing.T) {
	m := impl.Mail{Fields: []impl.Field{{Name: "Subject", Value: "a"}, {Name: "SUBJECT", Value: "b"}, {Name: "x-Id", Value: ""}, {Name: "X-ID", Value: "c"}, {Name: "K", Value: "kay"}, {Name: "s", Value: "ess"}, {Name: "[", Value: "bracket"}, {Name: "@", Value: "at"}, {Name: "", Value: "nameless"}, {Name: "\u00c4", Value: "great"}, {Name: "\xff", Value: "wrong"}, {Name: "9-_", Value: "signs"}}}
	for name, want := range map[string]string{"Subject": "a", "subject": "a", "SUBJECT": "a", "sUbJeCt": "a", "X-Id": "", "x-id": "", "k": "kay", "K": "kay", "S": "ess", "[": "bracket", "@": "at", "": "nameless", "\u00c4": "great", "\xff": "wrong", "9-_": "signs"} {
		if value, code := impl.FieldOf(m, name); value != want || code != impl.OK {
			t.Errorf("FieldOf(%q) = %q, %d, not %q", name, value, code, want)
		}
		checkField(t, m, name)
	}
	// Letters are those from a to z alone.
	for _, name := range []string{"Subjec", "Subject ", " Subject", "Subject:", "\u212a", "\u017f", "{", "`", "\u00e4", "\u00ff", "\xfe", "9-?", "a", "Sub\x00ect", "X_Id", "\ufffd", strings.Repeat("S", impl.MaxText)} {
		if value, code := impl.FieldOf(m, name); value != "" || code != impl.ErrNone {
			t.Errorf("FieldOf(%q) = %q, %d", brief(name), value, code)
		}
		checkField(t, m, name)
	}
	for c := range 256 {
		for d := range 256 {
			one, other := string([]byte{byte(c)}), string([]byte{byte(d)})
			checkField(t, impl.Mail{Fields: []impl.Field{{Name: "a" + one, Value: "v"}}}, "A"+other)
		}
	}
}

func TestManyFieldsOfMails(t *testing.T) {
	last := impl.Field{Name: "Last", Value: "v"}
	for n, want := range map[int]int{0: impl.ErrNone, 1: impl.OK, 39: impl.OK, 40: impl.OK, 41: impl.ErrBad, 42: impl.ErrBad, impl.MaxList: impl.ErrBad, impl.MaxList + 1: impl.ErrBad, 100000: impl.ErrBad} {
		m := impl.Mail{Fields: slices.Repeat([]impl.Field{{Name: "X", Value: "y"}}, n), Body: longText}
		if n > 0 {
			m.Fields[n-1] = last
		}
		if code := checkField(t, m, "last"); code != want {
			t.Errorf("FieldOf a mail of %d fields has the code %d", n, code)
		}
		// Too many are told ahead of none, a name that is too long ahead of both.
		if code := checkField(t, m, "none"); n > 40 && code != impl.ErrBad || n <= 40 && code != impl.ErrNone {
			t.Errorf("FieldOf a mail of %d fields, of none, has the code %d", n, code)
		}
		for _, name := range []string{longText, endlessText} {
			if code := checkField(t, m, name); code != impl.ErrLong {
				t.Errorf("FieldOf a mail of %d fields, of a long name, has the code %d", n, code)
			}
		}
	}
	// Texts within a mail may be of any length.
	m := impl.Mail{Fields: []impl.Field{{Name: longText, Value: "v"}, {Name: "X", Value: longText}}, Body: endlessText}
	if value, code := impl.FieldOf(m, "x"); value != longText || code != impl.OK {
		t.Error("FieldOf with a long value:", len(value), code)
	}
	if value, code := impl.FieldOf(impl.Mail{}, ""); value != "" || code != impl.ErrNone {
		t.Error("FieldOf no fields:", value, code)
	}
}

func TestMissingFields(t *testing.T) {
	fields := rightFields()
	for mask := range 32 {
		head := ""
		for k, f := range fields {
			if mask>>k&1 == 1 {
				head += f
			}
		}
		want := impl.ErrNone
		if mask == 31 {
			want = impl.OK
		}
		checkMailCode(t, head+"\r\ne\r\n", impl.OK, want)
		checkMailCode(t, "X-From: a\r\nDates: b\r\nSubjec: c\r\nId: d\r\nXLink: e\r\nLink: f\r\n"+head+"\r\ne\r\n", impl.OK, want)
		// What is missing is told ahead of what is wrong with the others, but behind what is no mail.
		if mask != 31 {
			checkMailCode(t, strings.Replace(head, "2 Jan", "no", 1)+"\r\ne\r\n", impl.OK, impl.ErrNone)
			checkMailCode(t, head+"\r\n", impl.OK, impl.ErrNone)
			checkMailCode(t, head+"\r\n=\r\n", impl.OK, impl.ErrNone)
			checkMailCode(t, strings.Replace(head, "X-Id: c", "X-Id: ", 1)+"\r\n=00\r\n", impl.OK, impl.ErrNone)
			checkMailCode(t, head+"\r\ne", impl.ErrForm, impl.ErrForm)
			checkMailCode(t, head+"no\r\n\r\ne\r\n", impl.ErrForm, impl.ErrForm)
			checkMailCode(t, head+"\r\n"+strings.Repeat("x", impl.MaxText), impl.ErrLong, impl.ErrLong)
		}
	}
	// Fields that are there but empty are there.
	said := impl.Entry{Id: "c", Date: 1577934245}
	checkMailSays(t, "From: \r\n"+fields[1]+"Subject: \r\nX-Id: c\r\nX-Link: \r\n\r\n\r\n", said)
}

func TestWrongDatesOfMails(t *testing.T) {
	for date, stamp := range map[string]int{"Thu, 02 Jan 2020 03:04:05 +0000": 1577934245, "2 Jan 2020 04:04:05 +0100": 1577934245, "02 Jan 2020 03:04:05 GMT": 1577934245, "1 Jan 1970 00:00:00 UT": 0, "Thu, 31 Dec 2099 23:59:59 -0000": impl.MaxStamp} {
		said := rightSaid
		said.Date = stamp
		checkMailSays(t, withField(1, "Date: "+date)+"\r\ne\r\n", said)
	}
	for _, date := range []string{
		"", "0", "no", "Wed, 02 Jan 2020 03:04:05 +0000", "30 Feb 2020 03:04:05 GMT", "2 Jan 2020 03:04:05", "2 Jan 2020 24:00:00 GMT", "2020-01-02T03:04:05Z", "2 Jan 20 03:04:05 GMT", "2 jan 2020 03:04:05 GMT", "1 Jan 2100 00:00:00 GMT",
		// Its zone leads out of the bounds.
		"1 Jan 1970 00:00:00 +0001", "Thu, 31 Dec 2099 23:59:59 -0001",
		// No words are decoded in it.
		inWord("2 Jan 2020 03:04:05 UT"),
	} {
		checkMailCode(t, withField(1, "Date: "+date)+"\r\ne\r\n", impl.OK, impl.ErrForm)
	}
}

// withField is the header of a right mail with a field, perhaps folded, in the place of one of its own.
func withField(k int, field string) string {
	fields := rightFields()
	fields[k] = field + "\r\n"
	return strings.Join(fields, "")
}

func TestBodiesOfMails(t *testing.T) {
	head := strings.Join(rightFields(), "") + "\r\n"
	for body, content := range map[string]string{
		"\r\n": "", "e\r\n": "e", "\r\n\r\n": "\n", "a\r\nb\r\n": "a\nb", "a\r\n\r\n": "a\n", "a=\r\nb\r\n": "ab", "=\r\n\r\n": "", "a=\r\n\r\n": "a", "=0D\r\n": "\r", "=0A\r\n": "\n", "=0D=0A\r\n": "\n", "=0D\r\n\r\n": "\r\n", "=0D=0D=0A\r\n": "\r\n", "=0A=0D\r\n": "\n\r", "a=0Db\r\n": "a\rb", "=0D=\r\n=0A\r\n": "\n", "=0D=\r\n\r\n": "\r", "\r\n=0A\r\n": "\n\n",
		" \r\n": " ", "a \r\n": "a ", "=20\r\n": " ", ".\r\n": ".", "..\r\n.\r\n": "..\n.", "=3D\r\n": "=", "=C3=A4\r\n": "\u00e4", "=C3=\r\n=A4\r\n": "\u00e4", "=61\r\n": "a", "=09\r\n": "\t", "=7F\r\n": "\x7f", "X: y\r\n\r\nz\r\n": "X: y\n\nz",
		strings.Repeat("x", 998) + "\r\n": strings.Repeat("x", 998), strings.Repeat("=0D", 300) + "\r\n" + strings.Repeat("=0D", 300) + "\r\n": strings.Repeat("\r", 300) + "\n" + strings.Repeat("\r", 300), strings.Repeat("x", 500) + "\r\n" + strings.Repeat("x", 499) + "\r\n": strings.Repeat("x", 500) + "\n" + strings.Repeat("x", 499),
	} {
		said := rightSaid
		said.Content = content
		checkMailSays(t, head+body, said)
	}
	// So many ends of lines are MaxContent, each of them being one byte.
	many := strings.Repeat(strings.Repeat("=0D=0A", 100)+"=\r\n", 10)
	said := rightSaid
	said.Content = strings.Repeat("\n", 1000)
	checkMailSays(t, head+many+"\r\n", said)
	checkMailSays(t, head+strings.Repeat("\r\n", 1001), said)
	checkMailCode(t, head+many+"=0A\r\n", impl.OK, impl.ErrForm)
	checkMailCode(t, head+strings.Repeat("\r\n", 1002), impl.OK, impl.ErrForm)
	for _, body := range []string{
		// The two bytes are not there.
		"",
		// No quoted text stands ahead of them.
		"=\r\n", "a=\r\n", "\r\n=\r\n", "==\r\n", "=3\r\n", "=3d\r\n", "=G0\r\n", "= \r\n", "=\r\n=\r\n", "a\tb\r\n", "\x7f\r\n", "\x01\r\n", "=A\r\nB\r\n", "a=b\r\n", "a\r\n=0\r\n", "=C3=a4\r\n",
		// The entry is not right.
		"=00\r\n", "=0B\r\n", "=1F\r\n", "=FF\r\n", "=C3\r\n", "=C3\r\n=A4\r\n", "=EF=BF=BF\r\n", "=ED=A0=80\r\n", strings.Repeat("x", 500) + "\r\n" + strings.Repeat("x", 500) + "\r\n", strings.Repeat("x\r\n", 600), strings.Repeat(strings.Repeat("x", 900)+"\r\n", 60),
	} {
		checkMailCode(t, head+body, impl.OK, impl.ErrForm)
	}
}

func TestWrongValuesOfMails(t *testing.T) {
	names := []string{"From", "", "Subject", "X-Id", "X-Link"}
	for _, k := range []int{0, 2, 3, 4} {
		for value, want := range map[string]int{
			"a": impl.OK, inWord("a"): impl.OK, inWord("a b"): impl.OK, inWord("a") + "\r\n " + inWord(" b"): impl.OK, lineBytes(200): impl.OK, inWord(strings.Repeat("a", 140)): impl.OK, inWord("\u20ac"): impl.OK, inWord("\xff"): impl.OK, "=?utf-8?B??=": impl.OK, "=?utf-8?Q?a?=": impl.OK,
			inWord(" "): impl.ErrForm, inWord("a "): impl.ErrForm, inWord(" a"): impl.ErrForm, inWord("a  b"): impl.ErrForm, inWord("a\tb"): impl.ErrForm, inWord("a\n"): impl.ErrForm, inWord("\x00"): impl.ErrForm, inWord("\uffff"): impl.ErrForm, inWord("a ") + " b": impl.ErrForm, inWord("a ") + " " + inWord(" b"): impl.ErrForm, longLine[:100] + " " + longLine[:100]: impl.ErrForm, wordsOf(900, 60): impl.ErrForm, inWord(strings.Repeat("a", 100)) + " " + inWord(strings.Repeat("b", 101)): impl.ErrForm,
		} {
			checkMailCode(t, withField(k, names[k]+": "+value)+"\r\ne\r\n", impl.OK, want)
			// Of two faults the code is the same.
			if want != impl.OK {
				checkMailCode(t, withField(k, names[k]+": "+value)+"\r\n=\r\n", impl.OK, impl.ErrForm)
			}
		}
	}
	for k, want := range map[int]int{0: impl.OK, 2: impl.OK, 3: impl.ErrForm, 4: impl.OK} {
		checkMailCode(t, withField(k, names[k]+": ")+"\r\ne\r\n", impl.OK, want)
	}
}

func checkMailPart(t *testing.T, text, part, want string, wantCode int) {
	t.Helper()
	if got, code := impl.MailPart(text, part); got != want || code != wantCode {
		t.Errorf("MailPart(%.400q, %q) = %q, %d, not %q, %d", text, brief(part), brief(got), code, brief(want), wantCode)
	}
}

func TestMailParts(t *testing.T) {
	for head, bodies := range map[string][]string{"\r\n": {"", "\r\n", "a\r\n", "X: y\r\n\r\n"}, "X: y\r\n\r\n": {"", "\r\n", "a\r\n", "\r\n\r\na\r\n\r\n"}, "X: y\r\n z\r\nx: \r\n\r\n": {"", " a\r\n"}} {
		for _, body := range bodies {
			checkMailPart(t, head+body, "", head+body, impl.OK)
			checkMailPart(t, head+body, "HEADER", head, impl.OK)
			checkMailPart(t, head+body, "TEXT", body, impl.OK)
			if n, code := impl.MailLines(head + body); n != strings.Count(body, "\r\n") || code != impl.OK {
				t.Errorf("MailLines(%q) = %d, %d", head+body, n, code)
			}
		}
	}
	for _, part := range []string{"header", "text", "Header", "Text", "HEADE", "HEADERS", "TEX", "TEXTS", " ", "HEADER ", " TEXT", "BODY", "ALL", "1", "MIME", "HEADER.FIELDS", "\x00", "\xff", "TEXT\r\n", fullText} {
		// It is told ahead of what is no mail.
		for _, text := range []string{"X: y\r\n\r\na\r\n", "\r\n", "", "no mail", "X: y\r\n", strings.Repeat("X: y\r\n", 41) + "\r\n", fullText} {
			checkMailPart(t, text, part, "", impl.ErrBad)
		}
		for _, text := range []string{longText, endlessText, strings.Repeat("\r\n", impl.MaxText)} {
			checkMailPart(t, text, part, "", impl.ErrLong)
		}
	}
	for _, part := range []string{longText, endlessText, strings.Repeat("TEXT", impl.MaxText)} {
		for _, text := range []string{"X: y\r\n\r\na\r\n", "no mail", "", longText} {
			checkMailPart(t, text, part, "", impl.ErrLong)
		}
	}
}

func TestMailLines(t *testing.T) {
	for body, want := range map[string]int{"": 0, "\r\n": 1, "a\r\n": 1, "a\r\nb\r\n": 2, "\r\n\r\n": 2, "a\r\n\r\n\r\n": 3, "a=\r\nb\r\n": 2, ".\r\n": 1, strings.Repeat("\r\n", 1000): 1000} {
		for _, head := range []string{"\r\n", "X: y\r\n\r\n", "X: y\r\n z\r\nY: \r\n\r\n"} {
			if n, code := impl.MailLines(head + body); n != want || code != impl.OK {
				t.Errorf("MailLines(%q) = %d, %d, not %d", brief(head+body), n, code, want)
			}
		}
	}
}

// mailOfBytes is a right mail of so many bytes, of an entry's fields and lines of points.
func mailOfBytes(n int) string {
	text := strings.Join(rightFields(), "") + "\r\n"
	for len(text)+1000 < n {
		text += strings.Repeat(".", 900) + "\r\n"
	}
	lacks := n - len(text) - 2
	if lacks > 998 {
		text += "\r\n"
		lacks -= 2
	}
	return text + strings.Repeat(".", lacks) + "\r\n"
}

func TestMailsOfMaxText(t *testing.T) {
	for _, n := range []int{impl.MaxText - 1, impl.MaxText} {
		text := mailOfBytes(n)
		if len(text) != n {
			t.Fatal("the mail made has", len(text), "bytes, not", n)
		}
		checkMailCode(t, text, impl.OK, impl.ErrForm)
		checkMailPart(t, text, "", text, impl.OK)
		if !impl.MailOK(text) {
			t.Error("MailOK of", n, "bytes is false")
		}
	}
	for _, text := range []string{mailOfBytes(impl.MaxText + 1), mailOfBytes(2 * impl.MaxText), longText, endlessText, strings.Repeat("\r\n", impl.MaxText), "no mail\x00" + fullText} {
		checkMailCode(t, text, impl.ErrLong, impl.ErrLong)
		for _, part := range []string{"", "HEADER", "TEXT"} {
			checkMailPart(t, text, part, "", impl.ErrLong)
		}
		if n, code := impl.MailLines(text); n != 0 || code != impl.ErrLong {
			t.Errorf("MailLines of %d bytes = %d, %d", len(text), n, code)
		}
		if impl.MailOK(text) {
			t.Error("MailOK of", len(text), "bytes")
		}
	}
	checkMailCode(t, fullText, impl.ErrForm, impl.ErrForm)
	// A content may be written as long as a mail can be.
	head := strings.Join(rightFields(), "") + "\r\n"
	checkMailSays(t, head+strings.Repeat("=\r\n", (impl.MaxText-len(head)-3)/3)+"e\r\n", rightSaid)
}

func TestEveryShortMail(t *testing.T) {
	check := func(text string) { checkMail(t, text) }
	for n := range 7 {
		signsOf("\r\nX: ", n, check)
	}
	piecesOf([]string{"X: ", "X", ":", " ", "y", "\r\n", "\r", "\n", "\t", " z", "=20", "\x80"}, 4, check)
	piecesOf([]string{"X: y", " z", "\r\n", " ", "no"}, 7, check)
	head := strings.Join(rightFields(), "") + "\r\n"
	piecesOf([]string{"a", " ", "=", "\r\n", "=0D", "=0A", "=3D", "=\r\n", ".", "=C3", "=A4", "=00", "3"}, 4, func(body string) {
		check(head + body)
		check(head + body + "\r\n")
	})
	fields := append(rightFields(), "subject: x\r\n", "x-id: =?utf-8?B?w6Q=?=\r\n", " fold\r\n", "DATE: no\r\n")
	piecesOf(fields, 5, func(lines string) { check(lines + "\r\ne\r\n") })
}

func TestMadeMails(t *testing.T) {
	source := rand.New(rand.NewSource(14))
	parsed, said := map[int]int{}, map[int]int{}
	for range 30000 {
		code, entryCode := checkMail(t, madeMail(source))
		parsed[code]++
		said[entryCode]++
	}
	for _, code := range []int{impl.OK, impl.ErrForm} {
		if parsed[code] < 2000 || said[code] < 2000 || said[impl.ErrNone] < 500 {
			t.Errorf("few texts had a code: %v, %v", parsed, said)
		}
	}
}

func TestChangedMails(t *testing.T) {
	for _, text := range []string{
		"From: \r\nDate: 2 Jan 2020 03:04:05 UT\r\nSubject: b\r\n c\r\nX-Id: c\r\nX-Link: \r\n\r\n=3D\r\n.\r\n",
		"X: y\r\n z\r\n\r\na\r\n",
	} {
		changed(text, func(text string) { checkMail(t, text) })
	}
}
