package tests

import (
	"bufio"
	"fmt"
	"math"
	"math/rand"
	"net/textproto"
	"slices"
	"strings"
	"testing"

	"loop.example/g00268/impl"
)

// someTexts is texts of lines that begin with no point, one, two and more, and with signs that look like ends of lines.
func someTexts() []string {
	lines := []string{"", "a", ".", "..", "...", "....", ".a", "..a", "a.", "a..b", " .", ". ", ".. ", "\r", "\n", "\r.", "\n.", ".\r", ".\n", "\n\r", "\r\r.", "\n\n..", "\n\r.", ".\n.\r.", "a\r.b\n.c", "\x00", ".\xff", "\x80.", "\u20ac."}
	list := []string{"", "\r\n\r\n", "\r\n.\r\n", ".\r\n.\r\n.\r\n", "..\r\n...\r\n\r\n.x\r\n", "a\r\n.\r\nb\r\n", "\r\n..\r\n"}
	for _, line := range lines {
		list = append(list, line+"\r\n", "x\r\n"+line+"\r\n", line+"\r\n.y\r\n", line+"\r\n"+line+"\r\n")
	}
	return list
}

func TestBlocks(t *testing.T) {
	for text, block := range map[string]string{
		"": ".\r\n", "\r\n": "\r\n.\r\n", "a\r\n": "a\r\n.\r\n", ".\r\n": "..\r\n.\r\n", "..\r\n": "...\r\n.\r\n", "...\r\n": "....\r\n.\r\n", ".a\r\nb\r\n": "..a\r\nb\r\n.\r\n", "a\r\n.b\r\n": "a\r\n..b\r\n.\r\n", "a.\r\n.b.\r\n\r\n": "a.\r\n..b.\r\n\r\n.\r\n", ".\r\n.\r\n": "..\r\n..\r\n.\r\n", "\r\n\r\n.\r\n\r\n": "\r\n\r\n..\r\n\r\n.\r\n",
		// A line begins behind CRLF alone.
		"a\n.b\r\n": "a\n.b\r\n.\r\n", "a\r.b\r\n": "a\r.b\r\n.\r\n", "\n.\r\n": "\n.\r\n.\r\n", "\r.\r\n": "\r.\r\n.\r\n", "\r\r\n.\r\n": "\r\r\n..\r\n.\r\n", "\n\r\n.\r\n": "\n\r\n..\r\n.\r\n", "\r\n\n.\r\n": "\r\n\n.\r\n.\r\n", "\r\n\r.\r\n": "\r\n\r.\r\n.\r\n", ".\n.\r\n": "..\n.\r\n.\r\n",
	} {
		if got, code := impl.DotStuff(text); got != block || code != impl.OK {
			t.Errorf("DotStuff(%q) = %q, %d, not %q", text, got, code, block)
		}
		if got, code := impl.DotUnstuff(block); got != text || code != impl.OK {
			t.Errorf("DotUnstuff(%q) = %q, %d, not %q", block, got, code, text)
		}
	}
	for _, text := range someTexts() {
		if code := checkStuffed(t, text); code != impl.OK {
			t.Errorf("DotStuff(%q) has the code %d", text, code)
		}
		block, _ := impl.DotStuff(text)
		checkOnlyAtItsEnd(t, block)
		// What is stuffed twice is read in two steps.
		checkStuffed(t, block)
	}
	for c := range 256 {
		sign := string([]byte{byte(c)})
		for _, text := range []string{sign + "\r\n", "." + sign + "\r\n", sign + ".\r\n", "\r\n" + sign + ".\r\n", sign + "\r\n.\r\n"} {
			checkStuffed(t, text)
		}
	}
}

// Every text of a few signs, whether it is one of lines or not, and read as a block, whether it is one or not.
func TestBlocksOfFewSigns(t *testing.T) {
	codes, read := map[int]int{}, map[int]int{}
	for n := range 9 {
		signsOf(".\r\na", n, func(x string) {
			codes[checkStuffed(t, x)]++
			text, code := checkUnstuffed(t, x)
			read[code]++
			if code != impl.OK {
				return
			}
			if block, code := impl.DotStuff(text); block != x || code != impl.OK {
				t.Errorf("%q is read from %q, but its block is %q, %d", text, x, block, code)
			}
		})
	}
	if codes[impl.OK] < 1000 || codes[impl.ErrForm] < 1000 || len(codes) != 2 {
		t.Errorf("the codes of DotStuff are %v", codes)
	}
	if read[impl.OK] < 50 || read[impl.ErrForm] < 1000 || read[impl.ErrMore] < 1000 || len(read) != 3 {
		t.Errorf("the codes of DotUnstuff are %v", read)
	}
}

func TestTextsWithoutAnEnd(t *testing.T) {
	for _, text := range []string{"a", ".", "..", "\r", "\n", "a\r", "a\n", "a\n\r", "a\r\n ", "\r\n.", "\r\na", "a\r\n\r", "\r\n\n", "\x00", strings.Repeat("a", 32765), strings.Repeat("\r\n", 16382) + "a"} {
		if block, code := impl.DotStuff(text); block != "" || code != impl.ErrForm {
			t.Errorf("DotStuff(%.60q) = %.60q, %d", text, block, code)
		}
		checkStuffed(t, text)
	}
}

func TestBlocksThatAreNone(t *testing.T) {
	for _, text := range []string{"", "a", "a\r\n", "\r\n", "..", "..\r\n", "..a", "...\r\n", "a.\r\n", "a.", "a\n.\r\n", "a\r.\r\n", "\n.\r\n", "\r.\r\n", " .\r\n", "a\r\n..\r\n", "a\r\n .\r\n", "a\r\n\r.\r\n", "\r", "\n", "\r\n\r", strings.Repeat("a", 65536), strings.Repeat("..\r\n", 16384)} {
		checkUnstuffedCode(t, text, impl.ErrMore)
	}
	for _, text := range []string{".", ".a", ".\r", ".\n", ". ", ".\r\n\r\n", ".\r\n.", ".\r\n.\r\n", ".\r\na", ".\r\na\r\n.\r\n", ".a\r\n.\r\n", ".\r.\r\n", ".\n.\r\n", ".\r\r\n", ".\n\r\n", ".\x00\r\n.\r\n", "a\r\n.", "a\r\n.a\r\n.\r\n", "a\r\n.\r", "a\r\n.\n", "a\r\n.\r\n\r\n", "..\r\n.", "..\r\n.a", "a\r\n.b", ".a\r\nb", "." + strings.Repeat("a", 65535), ".\r\n" + strings.Repeat("a", 65533), strings.Repeat("a\r\n", 21845) + "."} {
		checkUnstuffedCode(t, text, impl.ErrForm)
	}
}

func TestBoundsOfBlocks(t *testing.T) {
	const most = impl.MaxText/2 - 3
	if most != 32765 {
		t.Fatal("MaxText / 2 - 3 is", most)
	}
	// Lines of each sort, filled up to just so many bytes.
	for _, line := range []string{"\r\n", ".\r\n", "..\r\n", ".a\r\n", "a\r\n", "a\n.b\r.c\r\n", strings.Repeat("w", 998) + "\r\n", "." + strings.Repeat("w", 997) + "\r\n"} {
		for _, size := range []int{most - 1, most, most + 1, most + 2, impl.MaxText - 1, impl.MaxText, impl.MaxText + 1, 2 * impl.MaxText} {
			text := strings.Repeat(line, size/len(line))
			text = strings.Repeat("x", size-len(text)) + text
			want := impl.OK
			if size > most {
				want = impl.ErrLong
			}
			if code := checkStuffed(t, text); code != want {
				t.Errorf("DotStuff of %d bytes has the code %d", size, code)
			}
		}
	}
	// So many bytes are told ahead of an end that is not there.
	for _, text := range []string{strings.Repeat("a", most+1), strings.Repeat(".", impl.MaxText), longText, endlessText, strings.Repeat("\r", most+1)} {
		if block, code := impl.DotStuff(text); block != "" || code != impl.ErrLong {
			t.Errorf("DotStuff of %d bytes = %.60q, %d", len(text), block, code)
		}
	}
	for _, size := range []int{impl.MaxText - 1, impl.MaxText} {
		text := strings.Repeat("x", size-5) + "\r\n"
		if got, code := checkUnstuffed(t, text+".\r\n"); got != text || code != impl.OK {
			t.Errorf("DotUnstuff of %d bytes = %d bytes, %d", size, len(got), code)
		}
	}
	for _, text := range []string{strings.Repeat("x", impl.MaxText-4) + "\r\n.\r\n", longText, endlessText, "." + longText, ".\r\n" + longText, strings.Repeat("..\r\n", 16384) + ".\r\n"} {
		checkUnstuffedCode(t, text, impl.ErrLong)
	}
}

// Texts of lines by a rule; those whose lines have no CR and LF of their own are held against the library's reader and writer of blocks as well.
func TestMadeBlocks(t *testing.T) {
	source := rand.New(rand.NewSource(16))
	plain := 0
	for range 3000 {
		var text strings.Builder
		for range source.Intn(12) {
			for range source.Intn(5) {
				text.WriteString(oneOf(source, ".", ".", "..", "a", " ", "word", "\u20ac", "\x00", "."))
				if source.Intn(12) == 0 {
					text.WriteString(oneOf(source, "\r", "\n", "\n\r", "\r."))
				}
			}
			text.WriteString("\r\n")
		}
		x := text.String()
		if code := checkStuffed(t, x); code != impl.OK {
			t.Fatalf("DotStuff(%q) has the code %d", x, code)
		}
		block, _ := impl.DotStuff(x)
		if source.Intn(10) == 0 {
			checkOnlyAtItsEnd(t, block)
		}
		if strings.ContainsAny(strings.ReplaceAll(x, "\r\n", ""), "\r\n") {
			continue
		}
		plain++
		var out strings.Builder
		buffer := bufio.NewWriter(&out)
		writer := textproto.NewWriter(buffer).DotWriter()
		writer.Write([]byte(x))
		writer.Close()
		// The library has an empty text end with a line of its own.
		if buffer.Flush(); x != "" && out.String() != block {
			t.Errorf("the library's block of %q is %q, not %q", x, out.String(), block)
		}
		got, err := textproto.NewReader(bufio.NewReader(strings.NewReader(block))).ReadDotBytes()
		if string(got) != strings.ReplaceAll(x, "\r\n", "\n") || err != nil {
			t.Errorf("the library reads %q from %q", got, block)
		}
	}
	if plain < 1000 {
		t.Errorf("only %d texts are plain", plain)
	}
}

func TestOverviews(t *testing.T) {
	e := impl.Entry{Id: "i", Title: "a title", Link: "l", Author: "me", Date: 1577934245, Content: "one\ntwo\n.three"}
	text := mailText(e, "news")
	for _, x := range []struct {
		m    impl.Stored
		want string
	}{
		{impl.Stored{Uid: 7, Text: text}, fmt.Sprintf("7\ta title\tme\tThu, 02 Jan 2020 03:04:05 +0000\t<3865851505@news>\t\t%d\t3", len(text))},
		{impl.Stored{Uid: 1, Text: "\r\n"}, "1\t\t\t\t\t\t2\t0"},
		{impl.Stored{Uid: 1000, Text: "\r\n\r\n\r\n"}, "1000\t\t\t\t\t\t6\t2"},
		{impl.Stored{Uid: 60, Text: "X: y\r\n\r\na\r\n"}, "60\t\t\t\t\t\t11\t1"},
		// In letters of either size, the first one of a name, in one line, as it stands.
		{impl.Stored{Uid: 2, Text: "SUBJECT: a\r\n b\r\nsubject: c\r\nfrom: =?utf-8?B?w6Q=?=\r\ndate: never\r\nMESSAGE-id: x y\r\n\r\n"}, "2\ta b\t=?utf-8?B?w6Q=?=\tnever\tx y\t\t84\t0"},
		{impl.Stored{Uid: 3, Text: "Message-ID: <1@a>\r\nDate: \r\nFrom: f\r\nX-Subject: no\r\n\r\nSubject: no\r\n"}, "3\t\tf\t\t<1@a>\t\t66\t1"},
		// Flags are not looked at.
		{impl.Stored{Uid: 4, Flags: 32, Text: "Subject: s\r\n\r\n"}, "4\ts\t\t\t\t\t14\t0"},
		{impl.Stored{Uid: 5, Flags: math.MinInt, Text: "From: s\r\n\r\n.\r\n"}, "5\t\ts\t\t\t\t14\t1"},
	} {
		if line, code := checkOver(t, x.m); line != x.want || code != impl.OK {
			t.Errorf("OverLine of %s = %q, %d, not %q", told(x.m), line, code, x.want)
		}
		if strings.Count(x.want, "\t") != 7 {
			t.Errorf("%q has not eight columns", x.want)
		}
	}
	source := rand.New(rand.NewSource(15))
	right := 0
	for i := range 2000 {
		text := madeMail(source)
		if i%2 == 0 {
			text = mailText(madeEntry(source), "news")
		}
		m := impl.Stored{Uid: 1 + source.Intn(1000), Flags: source.Intn(32), Text: text}
		line, code := checkOver(t, m)
		if code != impl.OK {
			continue
		}
		right++
		mail, _ := impl.ParseMail(text)
		lines, _ := impl.MailLines(text)
		columns := []string{fmt.Sprint(m.Uid)}
		for _, name := range []string{"Subject", "From", "Date", "Message-ID"} {
			value, _ := impl.FieldOf(mail, name)
			columns = append(columns, value)
		}
		if columns = append(columns, "", fmt.Sprint(len(text)), fmt.Sprint(lines)); !slices.Equal(strings.Split(line, "\t"), columns) {
			t.Errorf("the overview of %q is %q, not %q", text, line, columns)
		}
	}
	if right < 1200 {
		t.Errorf("only %d mails are right", right)
	}
}

// noMails is Texts that are no mail.
func noMails() []string {
	return []string{"", "a", "mail 1", "X: y", "X: y\r\n", "X: y\n\nbody\n", "X y\r\n\r\n", "X: \u00e4\r\n\r\n", "X: y\r\n\r\nbody", "X: y\r\n\r\n" + strings.Repeat("x", 999) + "\r\n", "X: y\r\n\r\n\x00\r\n", " X: y\r\n\r\n", manyFields(41) + "\r\n", "Subject: a\tb\r\n\r\n", ".\r\n", strings.Repeat("x", 4000)}
}

func TestBoundsOfOverviews(t *testing.T) {
	for _, uid := range []int{1, 2, 60, 999, 1000} {
		for _, text := range []string{"\r\n", mailText(plainEntry, "news"), mailOfBytes(4000), mailOfBytes(4001), mailOfBytes(65535), mailOfBytes(65536)} {
			checkOverCode(t, impl.Stored{Uid: uid, Text: text}, impl.OK)
		}
		for _, text := range append(noMails(), mailOfBytes(65537), longText, endlessText) {
			checkOverCode(t, impl.Stored{Uid: uid, Text: text}, impl.ErrForm)
		}
	}
	// A uid that is none is told ahead of a Text that is no mail.
	for _, uid := range []int{0, -1, 1001, 1002, 1 << 32, 1<<32 + 1, math.MaxInt, math.MinInt} {
		for _, text := range append(noMails(), "\r\n", mailText(plainEntry, "news"), mailOfBytes(65537), longText) {
			checkOverCode(t, impl.Stored{Uid: uid, Text: text}, impl.ErrBad)
		}
	}
}
