package tests

import (
	"encoding/hex"
	"fmt"
	"hash/crc32"
	"math/rand"
	"regexp"
	"slices"
	"strings"
	"testing"
	"time"

	"loop.example/g00268/impl"
)

// Chapter 8 once more, by patterns over the text as it stands: what is asked of a mail is held against it.
var (
	noMailSign    = regexp.MustCompile(`[^\x01-\x09\x0b\x0c\x0e-\x7f]`)
	mailPattern   = regexp.MustCompile(`(?s)^((?:[^\r\n]+\r\n)*)\r\n(.*)$`)
	fieldLines    = regexp.MustCompile(`[^\r\n]+\r\n(?: [^\r\n]*\r\n)*`)
	quotedUnit    = regexp.MustCompile(`=\r\n|=[0-9A-F]{2}|\r\n|[ -<>-~]`)
	quotedPattern = regexp.MustCompile(`^(?:=\r\n|=[0-9A-F]{2}|\r\n|[ -<>-~])*$`)
	boxPattern    = regexp.MustCompile(`^[A-Za-z_][A-Za-z_0-9]{0,39}$`)
	smallLetters  = strings.NewReplacer("A", "a", "B", "b", "C", "c", "D", "d", "E", "e", "F", "f", "G", "g", "H", "h", "I", "i", "J", "j", "K", "k", "L", "l", "M", "m", "N", "n", "O", "o", "P", "p", "Q", "q", "R", "r", "S", "s", "T", "t", "U", "u", "V", "v", "W", "w", "X", "x", "Y", "y", "Z", "z")
)

// mailText is the mail of a right entry.
func mailText(e impl.Entry, box string) string {
	content := quotedLines(strings.ReplaceAll(e.Content, "\n", "\r\n"))
	text := ""
	for _, f := range [][2]string{
		{"From", encoded(e.Author)},
		{"Date", time.Unix(int64(e.Date), 0).UTC().Format("Mon, 02 Jan 2006 15:04:05 +0000")},
		{"Subject", encoded(e.Title)},
		{"Message-ID", fmt.Sprintf("<%d@%s>", crc32.ChecksumIEEE([]byte(e.Id)), box)},
		{"X-Id", encoded(e.Id)},
		{"X-Link", encoded(e.Link)},
		{"MIME-Version", "1.0"},
		{"Content-Type", "text/plain; charset=utf-8"},
		{"Content-Transfer-Encoding", "quoted-printable"},
	} {
		text += folded(f[0], f[1])
	}
	return text + "\r\n" + content + "\r\n"
}

func rightMail(text string) bool {
	lines := strings.Split(text, "\r\n")
	for _, line := range lines {
		if len(line) > 998 || noMailSign.MatchString(line) {
			return false
		}
	}
	return len(text) <= 65536 && lines[len(lines)-1] == ""
}

func mailOf(text string) (impl.Mail, int) {
	if len(text) > 65536 {
		return impl.Mail{}, impl.ErrLong
	}
	parts := mailPattern.FindStringSubmatch(text)
	if parts == nil || !rightMail(text) {
		return impl.Mail{}, impl.ErrForm
	}
	m := impl.Mail{Body: parts[2]}
	for _, lines := range fieldLines.FindAllString(parts[1], -1) {
		name, value, code := unfolded(lines)
		if code != impl.OK {
			return impl.Mail{}, impl.ErrForm
		}
		m.Fields = append(m.Fields, impl.Field{Name: name, Value: value})
	}
	if len(m.Fields) > 40 {
		return impl.Mail{}, impl.ErrForm
	}
	return m, impl.OK
}

func fieldOf(m impl.Mail, name string) (string, int) {
	if len(name) > 65536 {
		return "", impl.ErrLong
	}
	if len(m.Fields) > 40 {
		return "", impl.ErrBad
	}
	small := smallLetters.Replace(name)
	k := slices.IndexFunc(m.Fields, func(f impl.Field) bool { return smallLetters.Replace(f.Name) == small })
	if k < 0 {
		return "", impl.ErrNone
	}
	return m.Fields[k].Value, impl.OK
}

func mailEntryOf(text string) (impl.Entry, int) {
	m, code := mailOf(text)
	if code != impl.OK {
		return impl.Entry{}, code
	}
	var values []string
	for _, name := range []string{"From", "Date", "Subject", "X-Id", "X-Link"} {
		value, code := fieldOf(m, name)
		if code != impl.OK {
			return impl.Entry{}, impl.ErrNone
		}
		values = append(values, value)
	}
	stamp, code := read822(values[1])
	quoted, ended := strings.CutSuffix(m.Body, "\r\n")
	if code != impl.OK || !ended || !quotedPattern.MatchString(quoted) {
		return impl.Entry{}, impl.ErrForm
	}
	content := quotedUnit.ReplaceAllStringFunc(quoted, func(unit string) string {
		if unit == "=\r\n" {
			return ""
		}
		if b, err := hex.DecodeString(strings.TrimPrefix(unit, "=")); len(unit) == 3 && err == nil {
			return string(b)
		}
		return unit
	})
	e := impl.Entry{Author: decoded(values[0]), Date: stamp, Title: decoded(values[2]), Id: decoded(values[3]), Link: decoded(values[4]), Content: strings.Join(strings.Split(content, "\r\n"), "\n")}
	if !rightEntry(e) {
		return impl.Entry{}, impl.ErrForm
	}
	return e, impl.OK
}

func sameMail(a, b impl.Mail) bool {
	return a.Body == b.Body && slices.Equal(a.Fields, b.Fields)
}

// checkMail asks all of chapter 8 for a text, right or not; it says the codes of ParseMail and MailEntry.
func checkMail(t *testing.T, text string) (int, int) {
	t.Helper()
	if got := impl.MailOK(text); got != rightMail(text) {
		t.Errorf("MailOK(%.400q) is %v", text, got)
	}
	want, wantCode := mailOf(text)
	m, code := impl.ParseMail(text)
	if !sameMail(m, want) || code != wantCode {
		t.Errorf("ParseMail(%.400q) = %s, %d, not %s, %d", text, told(m), code, told(want), wantCode)
	}
	for _, f := range m.Fields {
		for _, name := range []string{f.Name, strings.ToUpper(f.Name), strings.ToLower(f.Name)} {
			checkField(t, m, name)
		}
	}
	checkParts(t, text, want, wantCode)
	wantEntry, wantEntryCode := mailEntryOf(text)
	e, entryCode := impl.MailEntry(text)
	if e != wantEntry || entryCode != wantEntryCode {
		t.Errorf("MailEntry(%.400q) = %s, %d, not %s, %d", text, told(e), entryCode, told(wantEntry), wantEntryCode)
	}
	if lines, code := impl.MailLines(text); lines != strings.Count(want.Body, "\n") || code != wantCode {
		t.Errorf("MailLines(%.400q) = %d, %d, with the code %d of ParseMail", text, lines, code, wantCode)
	}
	return code, entryCode
}

// checkParts asks that a mail is its header and its text.
func checkParts(t *testing.T, text string, m impl.Mail, wantCode int) {
	t.Helper()
	head, code := impl.MailPart(text, "HEADER")
	body, bodyCode := impl.MailPart(text, "TEXT")
	whole, wholeCode := impl.MailPart(text, "")
	if code != wantCode || bodyCode != wantCode || wholeCode != wantCode {
		t.Errorf("MailPart(%.400q) has the codes %d, %d, %d, not %d", text, code, bodyCode, wholeCode, wantCode)
	}
	if wantCode != impl.OK {
		text = ""
	}
	if whole != text || head+body != text || body != m.Body {
		t.Errorf("the parts of %.400q are %.400q, %.400q and %.400q", text, whole, head, body)
	}
	if wantCode == impl.OK && head != "\r\n" && (!strings.HasSuffix(head, "\r\n\r\n") || strings.Count(head, "\r\n\r\n") != 1 || strings.HasPrefix(head, "\r\n")) {
		t.Errorf("the header of %.400q is %.400q", text, head)
	}
}

func checkField(t *testing.T, m impl.Mail, name string) int {
	t.Helper()
	want, wantCode := fieldOf(m, name)
	value, code := impl.FieldOf(m, name)
	if value != want || code != wantCode {
		t.Errorf("FieldOf(%s, %q) = %q, %d, not %q, %d", told(m), brief(name), brief(value), code, brief(want), wantCode)
	}
	return code
}

// checkRendered asks promise 8 of an entry, right or not; it says RenderEntry's code.
func checkRendered(t *testing.T, e impl.Entry, box string) int {
	t.Helper()
	want, wantCode := "", impl.ErrBad
	if rightEntry(e) && boxPattern.MatchString(box) {
		want, wantCode = mailText(e, box), impl.OK
	}
	if len(box) > 65536 {
		wantCode = impl.ErrLong
	}
	text, code := impl.RenderEntry(e, box)
	if text != want || code != wantCode {
		t.Errorf("RenderEntry(%s, %q) = %q, %d, not %q, %d", told(e), brief(box), text, code, want, wantCode)
	}
	if wantCode != impl.OK {
		return code
	}
	if !impl.MailOK(text) || noMailSign.MatchString(strings.ReplaceAll(text, "\r\n", "")) || impl.LongestLine(text) > 998 {
		t.Errorf("the mail of %s is no MailOK: %q", told(e), text)
	}
	if back, code := impl.MailEntry(text); back != e || code != impl.OK {
		t.Errorf("the entry %s is read back as %s, %d", told(e), told(back), code)
	}
	if parsed, entryCode := checkMail(t, text); parsed != impl.OK || entryCode != impl.OK {
		t.Errorf("the mail of %s has the codes %d, %d", told(e), parsed, entryCode)
	}
	return code
}

// madeEntry is an entry of all sorts of things, right, by a rule.
func madeEntry(source *rand.Rand) impl.Entry {
	for {
		if f := madeFeed(source); len(f.Entries) > 0 {
			return f.Entries[source.Intn(len(f.Entries))]
		}
	}
}

// madeMail is what others may write: fields of an entry and others, in any order, folded or not, and any body.
func madeMail(source *rand.Rand) string {
	fields := []string{"From: a\r\n", "Date: 2 Jan 2020 03:04:05 UT\r\n", "Subject: b c\r\n", "X-Id: i\r\n", "X-Link: \r\n"}
	for range source.Intn(4) {
		k := source.Intn(len(fields) + 1)
		fields = slices.Insert(fields, k, madeField(source))
	}
	if source.Intn(3) == 0 {
		source.Shuffle(len(fields), func(i, j int) { fields[i], fields[j] = fields[j], fields[i] })
	}
	if source.Intn(6) == 0 {
		k := source.Intn(len(fields))
		fields = slices.Delete(fields, k, k+1)
	}
	text := strings.Join(fields, "") + oneOf(source, "\r\n", "\r\n", "\r\n", "\r\n", "\r\n\r\n", "", "\n", " \r\n")
	for range source.Intn(6) {
		text += oneOf(source, "plain", " ", "=20", "=\r\n", "=0D", "=0A", "\r\n", "\r\n", ".", "=C3=A4", "=3D", "X: y\r\n", "~", "=E2=82=AC")
	}
	if source.Intn(8) == 0 {
		text += oneOf(source, "=", "=3d", "\t", "=\r", "\r", "\n", "\x7f", "\u00e4", "=00", "=FF", "\x00")
	}
	return text + oneOf(source, "\r\n", "\r\n", "\r\n", "\r\n", "\r\n", "")
}

func madeField(source *rand.Rand) string {
	name := oneOf(source, "from", "DATE", "subject", "x-id", "X-LINK", "Other", "Received", "X", "From", "X-Id")
	value := oneOf(source, "", "a", "a b", "a\r\n b", "a b\r\n c\r\n d", "=?utf-8?B?w6Q=?=", "=?utf-8?B?w6Q=?=\r\n =?utf-8?B?w6Q=?=", "=?utf-8?B?w6Q?=", "Thu, 02 Jan 2020 03:04:05 +0000", "=?utf-8?B?IA==?=", "=?utf-8?B?AA==?=", lineBytes(199), lineBytes(200), "a: b")
	if source.Intn(12) == 0 {
		value = oneOf(source, " a", "a ", "a  b", "a\r\nb", "a\r\n", "\r\n a", "a\r\n \r\n b", "a\tb", "\u00e4", lineBytes(201), "a\rb", "a\nb", "\r\n\r\n")
	}
	return name + oneOf(source, ": ", ": ", ": ", ": ", ": ", ": ", ": ", ": ", ": ", ": ", ": ", ": ", ":", " : ", " ") + value + "\r\n"
}
