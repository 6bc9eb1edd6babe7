package tests

import (
	"encoding/xml"
	"math"
	"math/rand"
	"slices"
	"strconv"
	"strings"
	"testing"

	"loop.example/g00268/impl"
)

func TestXmlNumbers(t *testing.T) {
	if impl.TkStart != 1 || impl.TkEnd != 2 || impl.TkText != 3 || impl.MaxDepth != 12 || impl.MaxTokens != 600 || impl.MaxAttrs != 8 {
		t.Error("a kind of tokens, or a bound, has another number")
	}
}

func checkXmlName(t *testing.T, x string, want bool) {
	t.Helper()
	if got := impl.XmlNameOK(x); got != want {
		t.Errorf("XmlNameOK(%q) is %v", brief(x), got)
	}
}

func TestXmlNames(t *testing.T) {
	for _, x := range []string{"a", "z", "A", "Z", "_", "a1", "a-", "a.", "a:", "a:b-c.1_", "_:", "dc:creator", "content:encoded", "xml", strings.Repeat("n", impl.MaxName), "_" + strings.Repeat(":", impl.MaxName-1)} {
		checkXmlName(t, x, true)
	}
	for _, x := range []string{"", " ", "1", "-", ".", ":", "1a", "-a", ".a", ":a", "a b", " a", "a ", "a/", "a=", "a\n", "a\x00", "a&", "\u00e4", "a\u00e4", "\xff", "a\xff", strings.Repeat("n", impl.MaxName+1), fullText, longText, endlessText} {
		checkXmlName(t, x, false)
	}
	for c := range 256 {
		one := string([]byte{byte(c)})
		for _, x := range []string{one, "a" + one, one + "a", "ab" + one, "a" + one + "b", strings.Repeat("n", impl.MaxName-1) + one, strings.Repeat("n", impl.MaxName) + one} {
			checkXmlName(t, x, xmlNamePattern.MatchString(x))
		}
	}
}

func TestXmlRunes(t *testing.T) {
	for r, want := range map[int]bool{
		8: false, 9: true, 10: true, 11: false, 12: false, 13: true, 14: false, 31: false, 32: true, 0: false, -1: false, -9: false, 0x7f: true, 0x80: true,
		0xd7ff: true, 0xd800: false, 0xdfff: false, 0xe000: true, 0xfffd: true, 0xfffe: false, 0xffff: false, 0x10000: true, 0x1fffe: true, 0x1ffff: true, 0x10ffff: true, 0x110000: false,
		math.MinInt: false, math.MaxInt: false, 1<<32 + 9: false, 1<<32 + 'a': false, -1 << 32: false, math.MinInt + 32: false,
	} {
		if impl.XmlRune(r) != want {
			t.Errorf("XmlRune(%#x) is %v", r, !want)
		}
	}
	for r := -300; r < 0x110300; r++ {
		if impl.XmlRune(r) != xmlRune(r) {
			t.Errorf("XmlRune(%#x) is %v", r, !xmlRune(r))
		}
	}
}

func checkEscape(t *testing.T, x, want string, wantCode int) {
	t.Helper()
	if s, code := impl.EscapeXml(x); s != want || code != wantCode {
		t.Errorf("EscapeXml(%q) = %q, %d, not %q, %d", brief(x), brief(s), code, brief(want), wantCode)
	}
}

func TestEscapes(t *testing.T) {
	for x, want := range map[string]string{
		"": "", "plain": "plain", "&": "&amp;", "<": "&lt;", ">": "&gt;", "\"": "&quot;", "'": "'", "\r": "&#13;", "\n": "\n", "\t": "\t", "\r\n": "&#13;\n", ";#": ";#",
		"&amp;": "&amp;amp;", "a<b>&\"'\r": "a&lt;b&gt;&amp;&quot;'&#13;", "]]>": "]]&gt;", "<![CDATA[x]]>": "&lt;![CDATA[x]]&gt;", "\u00e4&\u20ac<\U0001f600": "\u00e4&amp;\u20ac&lt;\U0001f600", "\ufffd": "\ufffd", "\x7f\u0080": "\x7f\u0080",
	} {
		checkEscape(t, x, want, impl.OK)
	}
	for _, x := range []string{"\x00", "\x01", "\x08", "\x0b", "\x0c", "\x0e", "\x1f", "\ufffe", "\uffff", "\xff", "\xc0\x80", "\xe2\x82", "\xed\xa0\x80", "\xf4\x90\x80\x80"} {
		for _, x := range []string{x, "a" + x, x + "&", "<" + x + ">", "\ufffd" + x} {
			checkEscape(t, x, "", impl.ErrForm)
		}
	}
	for r := range 0x110010 {
		for n := 1; n <= 4; n++ {
			x := form(r, n)
			if n == 1 && r > 0xff || n > 1 && r >= 1<<(1+5*n) {
				continue
			}
			if ofXmlRunes(x) {
				checkEscape(t, x, xmlEscapes.Replace(x), impl.OK)
			} else {
				checkEscape(t, x, "", impl.ErrForm)
			}
		}
	}
}

func TestEscapesAtTheBound(t *testing.T) {
	const bound = impl.MaxText / 8
	for _, x := range []string{"a", "\"", "&", "\r", "\n", "\u00e4"} {
		x = strings.Repeat(x, bound/len(x))
		checkEscape(t, x, xmlEscapes.Replace(x), impl.OK)
		checkEscape(t, x[2:]+"\x00", "", impl.ErrForm)
		checkEscape(t, x[2:]+"\xff", "", impl.ErrForm)
		for _, x := range []string{x + "a", x + "\x00", "\xff" + x, x + x, strings.Repeat(x, 8), strings.Repeat(x, 9)} {
			checkEscape(t, x, "", impl.ErrLong)
		}
	}
}

// checkEscaped asks for a text that is escaped and read back, as an element's text and as a value.
func checkEscaped(t *testing.T, x string) {
	t.Helper()
	s, code := impl.EscapeXml(x)
	if code != impl.OK {
		t.Fatalf("EscapeXml(%q) has the code %d", brief(x), code)
	}
	want := []impl.Token{start("a"), chars(x), end("a")}
	if x == "" {
		want = []impl.Token{start("a"), end("a")}
	}
	if list, _, code := impl.XmlTokens("<a>" + s + "</a>"); !sameTokens(list, want) || code != impl.OK {
		t.Errorf("the text %q is read back as %s, %d", brief(x), shown(list), code)
	}
	want = []impl.Token{start("a", "b", x), end("a")}
	if list, _, code := impl.XmlTokens("<a b=\"" + s + "\"/>"); !sameTokens(list, want) || code != impl.OK {
		t.Errorf("the value %q is read back as %s, %d", brief(x), shown(list), code)
	}
}

func TestEscapedIsReadBack(t *testing.T) {
	for n := range 5 {
		signsOf("&<>\"'\r\n\t a;#", n, func(x string) { checkEscaped(t, x) })
	}
	for _, x := range []string{"&amp;", "&#13;", "&none;", "]]>", "<![CDATA[", "<!--", "-->", "<?", "?>", "</a>", "<b/>", "\r\n\r\r\n\n\r", "\u00e4\u20ac\U0001f600", "\ufffd\u0080\x7f", "  ", " a "} {
		checkEscaped(t, x)
	}
	for r := 0; r <= 0x10ffff; r++ {
		if xmlRune(r) && (r < 0x3000 || r > 0xd000 && r < 0x10100 || r%0x101 == 0 || r > 0x10fff0) {
			checkEscaped(t, shortest(r))
		}
	}
	for _, size := range []int{impl.MaxText/16 - 1, impl.MaxText / 16, impl.MaxText / 8} {
		for _, x := range []string{"\"", "&", "<", ">", "\r", "\n", " ", "a", "'"} {
			checkEscaped(t, strings.Repeat(x, size))
		}
		for seed := range 20 {
			checkEscaped(t, string(fromSigns("&<>\"'\r\n\t a;#]-?!/=", size, seed)))
		}
	}
}

func TestTokens(t *testing.T) {
	for text, want := range map[string][]impl.Token{
		"<a/>": {start("a"), end("a")}, "<a></a>": {start("a"), end("a")}, "<a />": {start("a"), end("a")}, "<a\t\r\n >x</a\t\r\n >": {start("a"), chars("x"), end("a")},
		"<a>x</a>":                              {start("a"), chars("x"), end("a")},
		"<a> </a>":                              {start("a"), chars(" "), end("a")},
		"<a>x<b>y</b>z</a>":                     {start("a"), chars("x"), start("b"), chars("y"), end("b"), chars("z"), end("a")},
		"<a><a><a/></a></a>":                    {start("a"), start("a"), start("a"), end("a"), end("a"), end("a")},
		"<a><b/><c></c></a>":                    {start("a"), start("b"), end("b"), start("c"), end("c"), end("a")},
		" \t\r\n<a/>\n ":                        {start("a"), end("a")},
		"&#32;<a/>&#x0D;&#9;\r":                 {start("a"), end("a")},
		"<!-- x --><a/><!-- y --><?z?>":         {start("a"), end("a")},
		"<?xml version='1.0'?>\n<a/>":           {start("a"), end("a")},
		"<a b='1'/>":                            {start("a", "b", "1"), end("a")},
		"<a b=\"1\" c='2'>x</a>":                {start("a", "b", "1", "c", "2"), chars("x"), end("a")},
		"<a\n\tb\r =\t\n'1'\r\nc=\"2\" >x</a>":  {start("a", "b", "1", "c", "2"), chars("x"), end("a")},
		"<a b=''/>":                             {start("a", "b", ""), end("a")},
		"<a b='\"'  c=\"'\"/>":                  {start("a", "b", "\"", "c", "'"), end("a")},
		"<a b='<x/>&gt; > / ='/>":               {start("a", "b", "<x/>> > / ="), end("a")},
		"<a b='1' B='2' b1='3'/>":               {start("a", "b", "1", "B", "2", "b1", "3"), end("a")},
		"<a b=' x  y\t\nz '/>":                  {start("a", "b", " x  y\t\nz "), end("a")},
		"<A:b-c.1_ _='x'></A:b-c.1_>":           {start("A:b-c.1_", "_", "x"), end("A:b-c.1_")},
		"<a>&amp;&lt;&gt;&quot;&apos;</a>":      {start("a"), chars("&<>\"'"), end("a")},
		"<a b='&amp;&lt;&gt;&quot;&apos;'/>":    {start("a", "b", "&<>\"'"), end("a")},
		"<a>&#65;&#x41;&#x6a;&#x6A;&#0065;</a>": {start("a"), chars("AAjjA"), end("a")},
		"<a b='&#60;&#x3C;&#38;&#39;&#34;'/>":   {start("a", "b", "<<&'\""), end("a")},
		"<a>&#38;amp;&amp;lt;</a>":              {start("a"), chars("&amp;&lt;"), end("a")},
		"<a>&#8364;&#x20AC;&#x1f600;\u20ac</a>": {start("a"), chars("\u20ac\u20ac\U0001f600\u20ac"), end("a")},
		"<a>]]> > ' \" ; = / ? ! -- --></a>":    {start("a"), chars("]]> > ' \" ; = / ? ! -- -->"), end("a")},
		"<a><![CDATA[<b>&amp;</b>]]></a>":       {start("a"), chars("<b>&amp;</b>"), end("a")},
		"<a><![CDATA[]]></a>":                   {start("a"), end("a")},
		"<a><![CDATA[ ]]></a>":                  {start("a"), chars(" "), end("a")},
		"<a><![CDATA[]]]]></a>":                 {start("a"), chars("]]"), end("a")},
		"<a><![CDATA[]>]]>]]></a>":              {start("a"), chars("]>]]>"), end("a")},
		"<a><![CDATA[<![CDATA[]]></a>":          {start("a"), chars("<![CDATA["), end("a")},
		"<a>x<![CDATA[y]]>z</a>":                {start("a"), chars("xyz"), end("a")},
		"<a>x<![CDATA[]]>z</a>":                 {start("a"), chars("xz"), end("a")},
		"<a><![CDATA[x]]><![CDATA[y]]></a>":     {start("a"), chars("xy"), end("a")},
		"<a><![CDATA[]]>x<![CDATA[]]><b/></a>":  {start("a"), chars("x"), start("b"), end("b"), end("a")},
		"<a>x<!-- none -->y</a>":                {start("a"), chars("xy"), end("a")},
		"<a>x<?none?><!---->y<b/>z</a>":         {start("a"), chars("xy"), start("b"), end("b"), chars("z"), end("a")},
		"<a><!-- <b> </a> & \" -- > --></a>":    {start("a"), end("a")},
		"<a><!-----></a>":                       {start("a"), end("a")},
		"<a><!-->--></a>":                       {start("a"), end("a")},
		"<a><?></a>?></a>":                      {start("a"), end("a")},
		"<a><? <b> & ? > ?></a>":                {start("a"), end("a")},
		"<a><??></a>":                           {start("a"), end("a")},
		"<a><???></a>":                          {start("a"), end("a")},
	} {
		list, place, code := impl.XmlTokens(text)
		if !sameTokens(list, want) || place != len(text) || code != impl.OK {
			t.Errorf("XmlTokens(%q) = %s, %d, %d", text, shown(list), place, code)
		}
		checkTokens(t, text)
	}
}

func TestEndsOfLines(t *testing.T) {
	for inner, want := range map[string]string{
		"\r": "\n", "\r\n": "\n", "\n": "\n", "\n\r": "\n\n", "\r\r": "\n\n", "\r\n\n": "\n\n", "\r\r\n": "\n\n", "\r\n\r\n": "\n\n", "x\ry": "x\ny", "x\r\ny": "x\ny", "\rx\r\n": "\nx\n",
	} {
		for text, want := range map[string][]impl.Token{
			"<a>" + inner + "</a>":             {start("a"), chars(want), end("a")},
			"<a><![CDATA[" + inner + "]]></a>": {start("a"), chars(want), end("a")},
			"<a b='" + inner + "'/>":           {start("a", "b", want), end("a")},
			"<a b=\"" + inner + "\"></a>":      {start("a", "b", want), end("a")},
		} {
			if list, _, code := impl.XmlTokens(text); !sameTokens(list, want) || code != impl.OK {
				t.Errorf("XmlTokens(%q) = %s, %d", text, shown(list), code)
			}
		}
	}
	for inner, want := range map[string]string{
		"&#13;": "\r", "&#xD;": "\r", "&#xd;&#10;": "\r\n", "&#13;\n": "\r\n", "\r&#10;": "\n\n", "\r&#13;": "\n\r", "&#13;\r": "\r\n", "&#13;\r\n": "\r\n", "\r\n&#10;": "\n\n", "&#10;": "\n", "&#13;&#13;\n": "\r\r\n",
	} {
		text := "<a b='" + inner + "'>" + inner + "</a>"
		if list, _, code := impl.XmlTokens(text); !sameTokens(list, []impl.Token{start("a", "b", want), chars(want), end("a")}) || code != impl.OK {
			t.Errorf("XmlTokens(%q) = %s, %d", text, shown(list), code)
		}
	}
	for inner, want := range map[string]string{
		"<![CDATA[&#13;]]>": "&#13;", "\r<![CDATA[\n]]>": "\n\n", "<![CDATA[\r]]>\n": "\n\n", "<![CDATA[\r]]><![CDATA[\n]]>": "\n\n", "\r<!---->\n": "\n\n", "\r<??>\n": "\n\n", "&#13;<![CDATA[\n]]>": "\r\n",
	} {
		text := "<a>" + inner + "</a>"
		if list, _, code := impl.XmlTokens(text); !sameTokens(list, []impl.Token{start("a"), chars(want), end("a")}) || code != impl.OK {
			t.Errorf("XmlTokens(%q) = %s, %d", text, shown(list), code)
		}
	}
}

type faulty struct {
	text        string
	place, code int
}

func checkFaults(t *testing.T, list []faulty) {
	t.Helper()
	for _, x := range list {
		tokens, place, code := impl.XmlTokens(x.text)
		if len(tokens) != 0 || place != x.place || code != x.code {
			t.Errorf("XmlTokens(%q) = %s, %d, %d, not %d, %d", brief(x.text), shown(tokens), place, code, x.place, x.code)
		}
		checkTokens(t, x.text)
	}
}

func TestWrongBytes(t *testing.T) {
	checkFaults(t, []faulty{
		{"\x00", 0, impl.ErrForm}, {"<a>\x01</a>", 3, impl.ErrForm}, {"<a>\x08</a>", 3, impl.ErrForm}, {"<a>x\x1f</a>", 4, impl.ErrForm}, {"<a b='\x0b'/>", 6, impl.ErrForm}, {"<a/>\x0c", 4, impl.ErrForm},
		{"<a>\xff</a>", 3, impl.ErrForm}, {"<a>\u00e4\xc3</a>", 5, impl.ErrForm}, {"<a>\xe2\x82</a>", 3, impl.ErrForm}, {"<a>\xe2\x82\xac\x80</a>", 6, impl.ErrForm}, {"<a>\xc0\x80</a>", 3, impl.ErrForm},
		{"<a>\xed\xa0\x80</a>", 3, impl.ErrForm}, {"<a>\ufffd\ufffe</a>", 6, impl.ErrForm}, {"<a>\uffff</a>", 3, impl.ErrForm}, {"<a>\xf4\x90\x80\x80</a>", 3, impl.ErrForm}, {"<a>\ufffd\xef\xbf</a>", 6, impl.ErrForm},
		{"<\xff>", 1, impl.ErrForm}, {"<!--\xff-->", 4, impl.ErrForm}, {"<?\x00?><a/>", 2, impl.ErrForm}, {"<a><![CDATA[\x02]]></a>", 12, impl.ErrForm}, {"<a/><!-- \x1f", 9, impl.ErrForm},
		// Such a byte is told ahead of all else, wherever it stands.
		{"x\x00", 1, impl.ErrForm}, {"</a>\x00", 4, impl.ErrForm}, {"<a>&x;\x00</a>", 6, impl.ErrForm}, {"<a/><b/>\xff\xfe", 8, impl.ErrForm}, {"<!x>\xff", 4, impl.ErrForm}, {"<a b='' b=''>\xff", 13, impl.ErrForm}, {strings.Repeat("<a>", 13) + "\xff", 39, impl.ErrForm},
	})
}

func TestWhatDoesNotEnd(t *testing.T) {
	checkFaults(t, []faulty{
		{"<?", 0, impl.ErrForm}, {"<?>", 0, impl.ErrForm}, {"<?x", 0, impl.ErrForm}, {"<?x>", 0, impl.ErrForm}, {"<?x ? >", 0, impl.ErrForm}, {" <?x</a>", 1, impl.ErrForm}, {"<a><?x</a>", 3, impl.ErrForm}, {"<a/><?", 4, impl.ErrForm},
		{"<!--", 0, impl.ErrForm}, {"<!-->", 0, impl.ErrForm}, {"<!--->", 0, impl.ErrForm}, {"<!-- --", 0, impl.ErrForm}, {"<!-- -- >", 0, impl.ErrForm}, {"<a>x<!-- </a>", 4, impl.ErrForm}, {"<a/><!--->", 4, impl.ErrForm},
		{"<a><![CDATA[", 3, impl.ErrForm}, {"<a><![CDATA[x</a>", 3, impl.ErrForm}, {"<a>x<![CDATA[x]]", 4, impl.ErrForm}, {"<a><![CDATA[]>]] ></a>", 3, impl.ErrForm}, {"<![CDATA[x", 0, impl.ErrForm}, {"<a/><![CDATA[]]", 4, impl.ErrForm},
		{"<!", 0, impl.ErrForm}, {"<!>", 0, impl.ErrForm}, {"<!-", 0, impl.ErrForm}, {"<!->", 0, impl.ErrForm}, {"<! -- -->", 0, impl.ErrForm}, {"<!DOCTYPE a><a/>", 0, impl.ErrForm}, {"<a><!DOCTYPE x></a>", 3, impl.ErrForm}, {"<a/><!ELEMENT a>", 4, impl.ErrForm},
		{"<a><![CDATA x]]></a>", 3, impl.ErrForm}, {"<a><![cdata[x]]></a>", 3, impl.ErrForm}, {"<a><![CDATA", 3, impl.ErrForm}, {"<a><![ CDATA[x]]></a>", 3, impl.ErrForm}, {"<a>x<!b></a>", 4, impl.ErrForm},
	})
}

func TestWrongEnds(t *testing.T) {
	checkFaults(t, []faulty{
		{"</a>", 0, impl.ErrClose}, {" </a>", 1, impl.ErrClose}, {"<a></b>", 3, impl.ErrClose}, {"<a></A>", 3, impl.ErrClose}, {"<a></aa>", 3, impl.ErrClose}, {"<aa></a>", 4, impl.ErrClose}, {"<a><b></a></b>", 6, impl.ErrClose}, {"<a></a></a>", 7, impl.ErrClose}, {"<a/></a>", 4, impl.ErrClose}, {"<a>x</b >", 4, impl.ErrClose},
		{"<a>", 3, impl.ErrClose}, {"<a>x", 4, impl.ErrClose}, {"<a><b></b>", 10, impl.ErrClose}, {"<a><b/> ", 8, impl.ErrClose}, {"<a><!-- -->", 11, impl.ErrClose}, {"<a><![CDATA[]]>", 15, impl.ErrClose},
		{"</", 2, impl.ErrForm}, {"</>", 2, impl.ErrForm}, {"</ a>", 2, impl.ErrForm}, {"</a", 3, impl.ErrForm}, {"</a ", 4, impl.ErrForm}, {"</a b>", 4, impl.ErrForm}, {"</a/>", 3, impl.ErrForm}, {"</a b='1'>", 4, impl.ErrForm}, {"</1>", 3, impl.ErrForm}, {"</-a>", 4, impl.ErrForm}, {"<a></a", 6, impl.ErrForm}, {"<a></a<", 6, impl.ErrForm}, {"<a></b\r\n", 8, impl.ErrForm}, {"<a></\u00e4>", 5, impl.ErrForm}, {"<a></a\u00e4>", 6, impl.ErrForm}, {"<a></.b>", 7, impl.ErrForm}, {"</" + strings.Repeat("n", 41) + ">", 43, impl.ErrForm}, {"</" + strings.Repeat("n", 40) + ">", 0, impl.ErrClose},
	})
}

func TestWrongBeginnings(t *testing.T) {
	checkFaults(t, []faulty{
		{"<", 1, impl.ErrForm}, {"<>", 1, impl.ErrForm}, {"< a>", 1, impl.ErrForm}, {"<1>", 2, impl.ErrForm}, {"<-a>", 3, impl.ErrForm}, {"<:a/>", 3, impl.ErrForm}, {"<.>", 2, impl.ErrForm}, {"<=>", 1, impl.ErrForm}, {"<\u00e4/>", 1, impl.ErrForm}, {"<a\u00e4/>", 2, impl.ErrForm}, {"<a><</a>", 4, impl.ErrForm}, {"<a>x<1</a>", 6, impl.ErrForm},
		{"<a", 2, impl.ErrForm}, {"<a ", 3, impl.ErrForm}, {"<a/", 3, impl.ErrForm}, {"<a/ >", 3, impl.ErrForm}, {"<a//>", 3, impl.ErrForm}, {"<a / >", 4, impl.ErrForm}, {"<a<", 2, impl.ErrForm}, {"<a;>", 2, impl.ErrForm}, {"<a &lt;>", 3, impl.ErrForm}, {"<a /x>", 4, impl.ErrForm},
		{"<a b", 4, impl.ErrForm}, {"<a b>", 4, impl.ErrForm}, {"<a b/>", 4, impl.ErrForm}, {"<a b c='1'>", 5, impl.ErrForm}, {"<a b ", 5, impl.ErrForm}, {"<a b=", 5, impl.ErrForm}, {"<a b= ", 6, impl.ErrForm}, {"<a b=>", 5, impl.ErrForm}, {"<a b==''>", 5, impl.ErrForm}, {"<a ='1'>", 3, impl.ErrForm}, {"<a 1='1'>", 4, impl.ErrForm}, {"<a -b='1'>", 5, impl.ErrForm}, {"<a '1'>", 3, impl.ErrForm}, {"<a\u00a0b='1'>", 2, impl.ErrForm}, {"<a \u00e4='1'>", 3, impl.ErrForm}, {"<a b\u00e4='1'>", 4, impl.ErrForm},
		{"<a b=1>", 5, impl.ErrForm}, {"<a b=x>", 5, impl.ErrForm}, {"<a b=1'>", 5, impl.ErrForm}, {"<a b='1>", 8, impl.ErrForm}, {"<a b=\"1>", 8, impl.ErrForm}, {"<a b='1\">", 9, impl.ErrForm}, {"<a b=\"1'>", 9, impl.ErrForm}, {"<a b='", 6, impl.ErrForm}, {"<a b=\"", 6, impl.ErrForm}, {"<a b=`1`>", 5, impl.ErrForm}, {"<a b='x</a>\r\n", 13, impl.ErrForm}, {"<a b='&amp;", 11, impl.ErrForm},
		{"<ab='1'>", 3, impl.ErrForm}, {"<a'1'>", 2, impl.ErrForm}, {"<a b='1'c='2'>", 8, impl.ErrForm}, {"<a b=\"1\"c='2'/>", 8, impl.ErrForm}, {"<a b='1''2'>", 8, impl.ErrForm}, {"<a b='1'x>", 8, impl.ErrForm}, {"<a b='1'/x>", 9, impl.ErrForm}, {"<a b='1'", 8, impl.ErrForm}, {"<a b='1' ", 9, impl.ErrForm}, {"<a b='1' /", 10, impl.ErrForm},
		{"<a b='1' b='2'/>", 9, impl.ErrTwice}, {"<a b='1' c='' b='1'/>", 14, impl.ErrTwice}, {"<a b='1'\r\n\tb \n= '2'>", 11, impl.ErrTwice},
		{"<" + strings.Repeat("n", 41) + "/>", 42, impl.ErrForm}, {"<a " + strings.Repeat("n", 41) + "=''/>", 44, impl.ErrForm}, {"<" + strings.Repeat("n", 40) + ">", 42, impl.ErrClose}, {"<a " + strings.Repeat("n", 40) + "='' ", 47, impl.ErrForm},
	})
}

func TestWrongRoots(t *testing.T) {
	checkFaults(t, []faulty{
		{"", 0, impl.ErrRoot}, {" ", 1, impl.ErrRoot}, {"\r\n\t ", 4, impl.ErrRoot}, {"&#32;", 5, impl.ErrRoot}, {"<!-- -->", 8, impl.ErrRoot}, {"<?xml?> ", 8, impl.ErrRoot},
		{"x", 0, impl.ErrRoot}, {" x", 0, impl.ErrRoot}, {"<!----> x", 7, impl.ErrRoot}, {" <!---->x", 8, impl.ErrRoot}, {"x<a/>", 0, impl.ErrRoot}, {"<a/>x", 4, impl.ErrRoot}, {"<a/>\n x\n", 4, impl.ErrRoot}, {"<a/> <??>\n.", 9, impl.ErrRoot}, {"&amp;<a/>", 0, impl.ErrRoot}, {"<a></a> &#65;", 7, impl.ErrRoot}, {"\ufeff<a/>", 0, impl.ErrRoot}, {"\u00a0<a/>", 0, impl.ErrRoot}, {">", 0, impl.ErrRoot}, {"<a/>>", 4, impl.ErrRoot}, {"<a/>]]>", 4, impl.ErrRoot},
		{"<![CDATA[x]]><a/>", 0, impl.ErrRoot}, {"<![CDATA[]]><a/>", 0, impl.ErrRoot}, {"<![CDATA[ ]]>", 0, impl.ErrRoot}, {"<a/><![CDATA[]]>", 4, impl.ErrRoot}, {"<a></a>\n<![CDATA[\n]]>", 8, impl.ErrRoot},
		{"<a/><b/>", 4, impl.ErrRoot}, {"<a/><a/>", 4, impl.ErrRoot}, {"<a></a><b></b>", 7, impl.ErrRoot}, {"<a/> <b", 5, impl.ErrRoot}, {"<a/><!-- --><b b='&x;' b=1>", 12, impl.ErrRoot},
		// What its entities do wrong, and what is no element's beginning, is told first.
		{"x&none;", 1, impl.ErrEntity}, {"<a/>x &;", 6, impl.ErrEntity}, {"&#0;", 0, impl.ErrEntity}, {"<a/><", 5, impl.ErrForm}, {"<a/><1>", 6, impl.ErrForm}, {"x<&none;", 0, impl.ErrRoot},
	})
}

func TestWrongEntities(t *testing.T) {
	wrong := []string{
		"&", "&;", "&&amp;", "&amp", "&amp ;", "& amp;", "&AMP;", "&Lt;", "&nbsp;", "&none;", "&am;", "&ampp;", "&#;", "&#x;", "&#x ;", "&#65", "&#x41", "&#X41;", "&#6a;", "&#x6g;", "&#-65;", "&#+65;", "&#x-41;", "&#x+41;", "&#0x41;", "&#x0x41;", "&#6_5;", "&#x4_1;", "&x41;", "&65;", "&#65 ;", "&# 65;", "&#65,", "&##65;", "&amp&amp;", "&<amp;", "&\u00e4;", "&#\u0666;",
		"&#0;", "&#8;", "&#11;", "&#12;", "&#31;", "&#x0;", "&#x1F;", "&#55296;", "&#xD800;", "&#xdfff;", "&#65534;", "&#65535;", "&#xFFFE;", "&#xffff;", "&#1114112;", "&#x110000;", "&#99999999;", "&#xFFFFFFF;",
		"&#000000065;", "&#x00000041;", "&#x000041000;", "&#0000000065;", "&#xFFFFFFFFFFFFFFFFF;", "&#18446744073709551681;", "&#4294967361;", "&" + strings.Repeat("0", 1000) + ";",
	}
	for _, x := range wrong {
		checkFaults(t, []faulty{
			{"<a>" + x + "</a>", 3, impl.ErrEntity}, {"<a>y&lt;" + x + "</a>", 8, impl.ErrEntity}, {"<a b='" + x + "'/>", 6, impl.ErrEntity}, {"<a b=\"&gt;" + x + "\"/>", 10, impl.ErrEntity}, {x, 0, impl.ErrEntity}, {"<a/> " + x, 5, impl.ErrEntity},
			{"<a b='" + x, 6, impl.ErrEntity}, {"<a>" + x, 3, impl.ErrEntity}, {"<a b='' b='" + x + "'/>", 11, impl.ErrEntity},
		})
		for _, text := range []string{"<a><![CDATA[" + x + "]]></a>", "<a><!--" + x + "--></a>", "<a><?" + x + "?></a>"} {
			if code := checkTokens(t, text); code != impl.OK {
				t.Errorf("XmlTokens(%q) has the code %d", text, code)
			}
		}
	}
	for x, want := range map[string]string{
		"&#00000065;": "A", "&#x0000041;": "A", "&#x010ffff;": "\U0010ffff", "&#01114111;": "\U0010ffff", "&#x10FFFF;": "\U0010ffff", "&#9;": "\t", "&#10;": "\n", "&#13;": "\r", "&#32;": " ", "&#x20;": " ", "&#xFFFD;": "\ufffd", "&#xfffd;": "\ufffd", "&#xD7FF;": "\ud7ff", "&#xe000;": "\ue000", "&#x1fffe;": "\U0001fffe", "&#127;": "\x7f", "&#128;": "\u0080", "&quot;": "\"", "&apos;": "'",
	} {
		text := "<a b='" + x + "'>" + x + "</a>"
		if list, place, code := impl.XmlTokens(text); !sameTokens(list, []impl.Token{start("a", "b", want), chars(want), end("a")}) || place != len(text) || code != impl.OK {
			t.Errorf("XmlTokens(%q) = %s, %d, %d", text, shown(list), place, code)
		}
	}
	for n := range 0x110100 {
		text := "<a>&#" + strconv.Itoa(n) + ";</a>"
		if n%2 == 1 {
			text = "<a>&#x" + strconv.FormatInt(int64(n), 16) + ";</a>"
		}
		list, place, code := impl.XmlTokens(text)
		if right := xmlRune(n); right && (code != impl.OK || list[1].Text != shortest(n)) || !right && (code != impl.ErrEntity || place != 3) {
			t.Errorf("XmlTokens(%q) = %s, %d, %d", text, shown(list), place, code)
		}
	}
}

// Of two faults in one text the one that the document tells first.
func TestTwoFaults(t *testing.T) {
	nine := ""
	for i := range 9 {
		nine += " b" + strconv.Itoa(i) + "=''"
	}
	deep := strings.Repeat("<a>", 12)
	many := "<a>" + strings.Repeat("<b/>", 299) + "x"
	checkFaults(t, []faulty{
		{"<a b='' b='>", 12, impl.ErrForm}, {"<a b='' b>", 9, impl.ErrForm}, {"<a b='' b='' c>", 8, impl.ErrTwice}, {"<a b='' b=''", 8, impl.ErrTwice}, {"<a b='' b=''c", 8, impl.ErrTwice},
		{"<a" + nine + "/>", 2 + 8*6 + 1, impl.ErrMany}, {"<a" + nine, 2 + 8*6 + 1, impl.ErrMany}, {"<a" + nine[:8*6] + " b0=''/>", 2 + 8*6 + 1, impl.ErrTwice}, {"<a" + nine[:8*6] + " c=/>", 2 + 8*6 + 3, impl.ErrForm}, {"<a" + nine[:8*6] + " c='&;'/>", 2 + 8*6 + 4, impl.ErrEntity}, {"<a" + nine[:8*6] + " c", 2 + 8*6 + 2, impl.ErrForm},
		{deep + "<a", 36, impl.ErrDepth}, {deep + "<a b=1>", 36, impl.ErrDepth}, {deep + "<a b='' b=''>", 36, impl.ErrDepth}, {deep + "<1>", 38, impl.ErrForm}, {deep + "<>", 37, impl.ErrForm}, {deep + "</b>", 36, impl.ErrClose}, {deep + "x", 37, impl.ErrClose}, {deep + "<a/>", 36, impl.ErrDepth},
		{"<a></b", 6, impl.ErrForm}, {"<a></b c>", 7, impl.ErrForm}, {"<a></1>", 6, impl.ErrForm}, {"<a>&x;</b>", 3, impl.ErrEntity}, {"<a></b>&x;", 3, impl.ErrClose}, {"</a>x", 0, impl.ErrClose}, {"x</a>", 0, impl.ErrRoot}, {"<a>&x;<!--", 3, impl.ErrEntity}, {"<a><!--&x;", 3, impl.ErrForm},
		{many + "</b>", len(many), impl.ErrClose}, {many + "<b", len(many) + 2, impl.ErrForm}, {many + "<b c='' c=''/>", len(many) + 8, impl.ErrTwice}, {many + "&x;", len(many), impl.ErrEntity}, {many + "</a", len(many) + 3, impl.ErrForm}, {many + "<!", len(many), impl.ErrForm},
	})
}

func TestDepth(t *testing.T) {
	for n := 1; n <= 20; n++ {
		begins, ends := strings.Repeat("<a>", n), strings.Repeat("</a>", n)
		wantCode := impl.OK
		if n > impl.MaxDepth {
			wantCode = impl.ErrDepth
		}
		for _, text := range []string{begins + ends, begins + "x" + ends, strings.Repeat("<a>", n-1) + "<a/>" + strings.Repeat("</a>", n-1), begins + ends[4:] + strings.Repeat("<a></a>", 3) + "</a>"} {
			if n == 1 && strings.Count(text, "<a>") > 1 {
				continue
			}
			if code := checkTokens(t, text); code != wantCode {
				t.Errorf("XmlTokens of %d elements within each other has the code %d", n, code)
			}
		}
	}
	// Beside each other there may be more.
	if code := checkTokens(t, "<r>"+strings.Repeat("<a><b></b></a>", 40)+"</r>"); code != impl.OK {
		t.Error("XmlTokens of elements beside each other:", code)
	}
	checkFaults(t, []faulty{{strings.Repeat("<a>", 13), 36, impl.ErrDepth}, {strings.Repeat("<a> ", 13), 48, impl.ErrDepth}, {strings.Repeat("<a>", 12), 36, impl.ErrClose}})
}

func attrsOf(n int) string {
	text := ""
	for i := range n {
		text += " b" + strconv.Itoa(i) + "='" + strings.Repeat("v", i) + "'"
	}
	return text
}

func TestManyAttrs(t *testing.T) {
	for n := range 20 {
		for _, text := range []string{"<a" + attrsOf(n) + "/>", "<a" + attrsOf(n) + ">x</a>", "<r><a" + attrsOf(n) + "/><a" + attrsOf(n) + " ></a></r>"} {
			wantCode := impl.OK
			if n > impl.MaxAttrs {
				wantCode = impl.ErrMany
			}
			if code := checkTokens(t, text); code != wantCode {
				t.Errorf("XmlTokens of %d attributes has the code %d", n, code)
			}
		}
	}
	eight := attrsOf(8)
	checkFaults(t, []faulty{{"<a" + eight + " c=''/>", 3 + len(eight), impl.ErrMany}, {"<a" + eight + "\r\n\tc=''", 5 + len(eight), impl.ErrMany}})
}

func TestManyTokens(t *testing.T) {
	for _, n := range []int{597, 598, 599, 600, 601, 602, 1000} {
		for _, inner := range []string{"<b/>", "<b></b>", "x<b/>", "<b>x</b>"} {
			for _, tail := range []string{"", "x", "x<!-- -->y", "<b/>", "x<b/>"} {
				one, _, _ := tokensOf("<a>" + inner + "</a>")
				text := "<a>" + strings.Repeat(inner, (n-2)/(len(one)-2)) + tail + "</a>"
				checkTokens(t, text)
			}
		}
	}
	full := "<a>" + strings.Repeat("<b/>", 299)
	if code := checkTokens(t, full+"</a>"); code != impl.OK {
		t.Error("XmlTokens of 600 tokens:", code)
	}
	if code := checkTokens(t, full+"</a> <!-- --><?x?>\n"); code != impl.OK {
		t.Error("XmlTokens of 600 tokens and nothing behind them:", code)
	}
	checkFaults(t, []faulty{
		{full + "x</a>", len(full) + 5, impl.ErrMany}, {full + "<b/></a>", len(full) + 4, impl.ErrMany}, {full + "<b></b></a>", len(full) + 7, impl.ErrMany}, {full + "x<!-- -->y<b/>", len(full) + 14, impl.ErrMany}, {full + "x</a >y", len(full) + 6, impl.ErrMany},
		{full + "<b>x</b></a>", len(full) + 4, impl.ErrMany}, {full + "<b><![CDATA[x]]></b></a>", len(full) + 16, impl.ErrMany}, {full + "<b><![CDATA[]]></b></a>", len(full) + 19, impl.ErrMany}, {full + "x<b/></a>", len(full) + 5, impl.ErrMany}, {full + "<b>x<!-- -->", len(full) + 4, impl.ErrMany},
		{full + "x", len(full) + 1, impl.ErrClose}, {full + "</a>x", len(full) + 4, impl.ErrRoot},
	})
}

func TestXmlAtMaxText(t *testing.T) {
	for _, around := range [][2]string{{"<a>", "</a>"}, {"<a b='", "'/>"}, {"<a><![CDATA[", "]]></a>"}, {"<a/><!--", "-->"}, {"<?", "?><a/>"}, {"<a ", "/>"}, {"", "<a/>"}, {"<a></a", ">"}} {
		for _, size := range []int{impl.MaxText - 1, impl.MaxText, impl.MaxText + 1, 2 * impl.MaxText} {
			for _, c := range []string{" ", "\r"} {
				text := around[0] + strings.Repeat(c, size-len(around[0])-len(around[1])) + around[1]
				wantCode := impl.OK
				if size > impl.MaxText {
					wantCode = impl.ErrLong
				}
				if code := checkTokens(t, text); code != wantCode {
					t.Errorf("XmlTokens of %d bytes between %q has the code %d", size, around, code)
				}
			}
		}
	}
	for _, c := range []string{"<", "&", "<!--", "<?", "<![CDATA[", "<!---->", "&amp;", "<a>", "</a>", "a", " ", "\r", "\n", "'", "\xff", "x<!---->", "<a b='"} {
		checkTokens(t, strings.Repeat(c, impl.MaxText/len(c)))
		checkTokens(t, "<a>"+strings.Repeat(c, impl.MaxText/len(c)-3)+"</a>")
		for _, text := range []string{c + longText, longText + c, strings.Repeat(c, impl.MaxText+1)} {
			if list, place, code := impl.XmlTokens(text); len(list) != 0 || place != 0 || code != impl.ErrLong {
				t.Error("XmlTokens beyond MaxText:", len(list), place, code)
			}
		}
	}
}

// piecesOf is each text of up to n of the pieces.
func piecesOf(pieces []string, n int, use func(string)) {
	var more func(string, int)
	more = func(head string, n int) {
		use(head)
		if n == 0 {
			return
		}
		for _, x := range pieces {
			more(head+x, n-1)
		}
	}
	more("", n)
}

func TestEveryShortXml(t *testing.T) {
	check := func(text string) { checkTokens(t, text) }
	for n := range 6 {
		signsOf("<>/a ='&;!x", n, check)
	}
	piecesOf([]string{"<a>", "</a>", "<b", " ", "c=", "'", "\"", "/>", ">", "x", "&lt;", "&#13;", "&", "<!--", "-->", "<![CDATA[", "]]>", "<?", "?>", "\r", "\n", "<", "\x01"}, 4, check)
	piecesOf([]string{"<a>", "</a>", "<b/>", "x", " ", "&lt;", "<!---->", "<![CDATA[", "]]>", "\r"}, 5, func(text string) { checkTokens(t, "<a>"+text+"</a>") })
	piecesOf([]string{" ", "\n", "b", "c", "=", "'", "\"", "v", "/", ">", "&gt;"}, 5, func(text string) { checkTokens(t, "<a"+text+"></a>") })
	piecesOf([]string{"&", "#", "x", "amp", "lt", "0", "D", "f", ";", "6"}, 5, func(text string) { checkTokens(t, "<a>&"+text+"</a>") })
}

func TestChangedXml(t *testing.T) {
	for _, text := range []string{
		"<?x y?>\r\n<a b=\"1 &amp; 2\" c='x'>t &#65;<!-- n --><b/><![CDATA[<c>]]>\r</a >\n",
		"<r:s _ = '&#x41;\r'\t><d.-e/>\u20ac</r:s>",
		"<a><a><b>x</b></a> </a>",
	} {
		changed(text, func(text string) { checkTokens(t, text) })
	}
}

// libraryTokens is what the library's reader says of a text that is right by either rule.
func libraryTokens(t *testing.T, text string) []impl.Token {
	var list []impl.Token
	d := xml.NewDecoder(strings.NewReader(text))
	for {
		token, err := d.RawToken()
		if err != nil {
			if err.Error() != "EOF" {
				t.Errorf("the library's reader of %q: %v", text, err)
			}
			return list
		}
		switch x := token.(type) {
		case xml.StartElement:
			var attrs []string
			for _, a := range x.Attr {
				attrs = append(attrs, a.Name.Local, a.Value)
			}
			list = append(list, start(x.Name.Local, attrs...))
		case xml.EndElement:
			list = append(list, end(x.Name.Local))
		case xml.CharData:
			if n := len(list); n > 0 && list[n-1].Kind == impl.TkText {
				list[n-1].Text += string(x)
			} else if len(x) > 0 {
				list = append(list, chars(string(x)))
			}
		}
	}
}

// madeElement is an element of all sorts of things, by a rule.
func madeElement(source *rand.Rand, depth int) string {
	pick := func(list ...string) string { return list[source.Intn(len(list))] }
	name := pick("a", "b", "item", "x-1", "_.y", "Z9")
	text := "<" + name
	for _, attr := range []string{"b", "href", "c-1", "_"}[source.Intn(5)%4:] {
		text += pick(" ", "\n", "\t ", "\r\n") + attr + pick("=", " =", "= ", "\n=\t") + pick("'x \" y'", "\"x ' y\"", "''", "'&lt;&#13;\r\n&#x20ac;'", "\"a>b&amp;\"")
	}
	text += pick("", " ", "\r\n")
	if source.Intn(5) == 0 {
		return text + "/>"
	}
	text += ">"
	for range source.Intn(6) {
		if depth < 6 && source.Intn(2) == 0 {
			text += madeElement(source, depth+1)
		} else {
			text += pick("x", " ", "\r", "\n", "\r\n", "&amp;", "&#65;", "&#xe4;", "&quot;&apos;", "\u20ac\U0001f600", "<!-- n < & -->", "<?x y < &?>", "<![CDATA[<b>&amp;\r\n]]>", "<![CDATA[]]>", "plain words;")
		}
	}
	return text + "</" + name + pick("", " ", "\n") + ">"
}

func TestTokensOfTheLibrary(t *testing.T) {
	source := rand.New(rand.NewSource(6))
	told := 0
	for range 20000 {
		text := madeElement(source, 0)
		if len(libraryTokens(t, text)) > impl.MaxTokens {
			continue
		}
		list, _, code := impl.XmlTokens(text)
		if want := libraryTokens(t, text); code != impl.OK || !sameTokens(list, want) {
			t.Errorf("XmlTokens(%q) = %s, %d; the library has %s", text, shown(list), code, shown(want))
		}
		checkTokens(t, text)
		told++
	}
	if told < 10000 {
		t.Error("few texts were read:", told)
	}
}

func TestTextsOfTokens(t *testing.T) {
	for want, list := range map[string][]impl.Token{
		"<a></a>": {start("a"), end("a")},
		"<a b=\"1 &amp; 2\" c=\"x\">text &lt; more<b></b>&lt;c&gt;</a>": {start("a", "b", "1 & 2", "c", "x"), chars("text < more"), start("b"), end("b"), chars("<c>"), end("a")},
		"<a b=\"&lt;&gt;&quot;'&#13;\n\t\">&quot;'&#13;\n</a>":          {start("a", "b", "<>\"'\r\n\t"), chars("\"'\r\n"), end("a")},
		"<a b=\"\"> </a>":                      {start("a", "b", ""), chars(" "), end("a")},
		"<a:b._-1>\u20ac]]&gt;</a:b._-1>":      {start("a:b._-1"), chars("\u20ac]]>"), end("a:b._-1")},
		"<a>&lt;![CDATA[x&amp;amp;<b></b></a>": {start("a"), chars("<![CDATA[x&amp;"), start("b"), end("b"), end("a")},
	} {
		if text, code := impl.TokensText(list); text != want || code != impl.OK {
			t.Errorf("TokensText(%s) = %q, %d, not %q", shown(list), text, code, want)
		}
		checkList(t, list)
	}
}

func TestListsOfNoText(t *testing.T) {
	withText, withAttrs := start("a"), end("a")
	withText.Text = "x"
	withAttrs.Attrs = []impl.Attr{{Name: "b", Value: "1"}}
	endWithText, textWithName, textWithAttrs, named := end("a"), chars("x"), chars("x"), impl.Token{Kind: 0, Name: "a"}
	endWithText.Text = "x"
	textWithName.Name = "a"
	textWithAttrs.Attrs = withAttrs.Attrs
	for _, list := range [][]impl.Token{
		nil, {}, {start("a")}, {end("a")}, {chars("x")}, {chars(" ")}, {{}}, {end("a"), start("a")}, {start("a"), end("b")}, {start("a"), end("A")}, {start("a"), end("a"), end("a")}, {start("a"), start("a"), end("a")}, {start("a"), start("b"), end("a"), end("b")},
		{start("a"), end("a"), start("b"), end("b")}, {chars(" "), start("a"), end("a")}, {start("a"), end("a"), chars("\n")}, {chars("x"), start("a"), end("a")},
		{start("a"), chars("x"), chars("y"), end("a")}, {start("a"), chars(""), end("a")}, {start("a"), chars(""), chars("x"), end("a")}, {start("a"), chars("x"), chars(""), end("a")}, {start("a"), end("a"), chars("")}, {chars(""), start("a"), end("a")},
		{start("a"), {Kind: 4}, end("a")}, {start("a"), {}, end("a")}, {start("a"), {Kind: -1, Name: "b"}, end("a")}, {start("a"), {Kind: math.MaxInt, Text: "x"}, end("a")}, {start("a"), {Kind: math.MinInt}, end("a")}, {named, end("a")}, {start("a"), named}, {start("a"), end("a"), {}}, {start("a"), end("a"), {Kind: 4}}, {{Kind: 4}, start("a"), end("a")},
		{withText, end("a")}, {start("a"), withAttrs}, {start("a"), endWithText}, {start("a"), textWithName, end("a")}, {start("a"), textWithAttrs, end("a")},
		{start(""), end("")}, {start("1"), end("1")}, {start("a b"), end("a b")}, {start("a/"), end("a")}, {start("a/")}, {start("a/"), end("a/")}, {start("a b='1'"), end("a")}, {start("a "), end("a ")}, {start("a"), end("a ")}, {start("a>x</a"), end("a")}, {start("a&"), end("a&")}, {start("!--"), end("a")}, {start("?"), end("?")}, {start("/a"), end("a")}, {start("\u00e4"), end("\u00e4")},
		{start("a", "", "x"), end("a")}, {start("a", "1", "x"), end("a")}, {start("a", "b c", "x"), end("a")}, {start("a", "b='' c", "x"), end("a")}, {start("a", "b ", "x"), end("a")}, {start("a", "b", "x", "b", "x"), end("a")}, {start("a", "b", "x", "c", "", "b", "y"), end("a")}, {start("a", "b", "\x00"), end("a")}, {start("a", "b", "\xff"), end("a")}, {start("a", "b", "\ufffe"), end("a")},
		{start("a"), chars("\x00"), end("a")}, {start("a"), chars("x\x1f"), end("a")}, {start("a"), chars("\xff"), end("a")}, {start("a"), chars("\xe2\x82"), end("a")}, {start("a"), chars("\uffff"), end("a")}, {start("a"), chars("\xe2\x82"), start("b"), end("b"), chars("\xac"), end("a")},
	} {
		if text, code := impl.TokensText(list); text != "" || code != impl.ErrBad {
			t.Errorf("TokensText(%s) = %q, %d", shown(list), text, code)
		}
		checkList(t, list)
	}
}

// within puts tokens into an element.
func within(list ...impl.Token) []impl.Token {
	return append(append([]impl.Token{start("r")}, list...), end("r"))
}

func TestSizesOfLists(t *testing.T) {
	const bound = impl.MaxText / 8
	check := func(what string, list []impl.Token, wantCode int) {
		t.Helper()
		if _, code := impl.TokensText(list); code != wantCode {
			t.Errorf("TokensText of %s has the code %d, not %d", what, code, wantCode)
		}
		checkList(t, list)
	}
	for n, wantCode := range map[int]int{bound - 1: impl.OK, bound: impl.OK, bound + 1: impl.ErrBad, impl.MaxText: impl.ErrBad, impl.MaxText + 1: impl.ErrBad, 1 << 20: impl.ErrBad} {
		for _, c := range []string{"a", "\"", "\r", " "} {
			check("a text of "+strconv.Itoa(n), within(chars(strings.Repeat(c, n-2))), wantCode)
			check("a value of "+strconv.Itoa(n), within(start("a", "b", strings.Repeat(c, n-5)), end("a")), wantCode)
			check("values of "+strconv.Itoa(n), within(start("a", "b", strings.Repeat(c, n/2), "c", strings.Repeat(c, n-n/2-6)), end("a")), wantCode)
			check("both of "+strconv.Itoa(n), within(start("a", "b", strings.Repeat(c, n/2)), chars(strings.Repeat(c, n-n/2-5)), end("a")), wantCode)
		}
		check("names of "+strconv.Itoa(n), []impl.Token{start("a", strings.Repeat("n", 40), strings.Repeat("v", n-42)), end("a")}, wantCode)
	}
	for n := 1; n <= 15; n++ {
		wantCode := impl.OK
		if n > impl.MaxDepth {
			wantCode = impl.ErrBad
		}
		check(strconv.Itoa(n)+" elements within each other", append(slices.Repeat([]impl.Token{start("a")}, n), slices.Repeat([]impl.Token{end("a")}, n)...), wantCode)
		x := start("a")
		for i := range n {
			x.Attrs = append(x.Attrs, impl.Attr{Name: "b" + strconv.Itoa(i)})
		}
		wantCode = impl.OK
		if n > impl.MaxAttrs {
			wantCode = impl.ErrBad
		}
		check(strconv.Itoa(n)+" attributes", []impl.Token{x, end("a")}, wantCode)
	}
	for _, size := range []int{1, impl.MaxName, impl.MaxName + 1, impl.MaxText + 1} {
		wantCode := impl.OK
		if size > impl.MaxName {
			wantCode = impl.ErrBad
		}
		name := strings.Repeat("n", size)
		check("a name", []impl.Token{start(name), end(name)}, wantCode)
		check("an attribute's name", []impl.Token{start("a", name, ""), end("a")}, wantCode)
	}
	pair := []impl.Token{start("b"), end("b")}
	check("600 tokens", within(slices.Repeat(pair, 299)...), impl.OK)
	check("601 tokens", within(append(slices.Repeat(pair, 299), chars("x"))...), impl.ErrBad)
	check("602 tokens", within(slices.Repeat(pair, 300)...), impl.ErrBad)
	check("MaxList tokens", within(slices.Repeat(pair, impl.MaxList/2-1)...), impl.ErrBad)
	check("MaxList and one", append(within(slices.Repeat(pair, impl.MaxList/2-1)...), end("a")), impl.ErrLong)
	check("MaxList ends and more", slices.Repeat([]impl.Token{end("a")}, impl.MaxList+1), impl.ErrLong)
	check("endless texts", slices.Repeat([]impl.Token{chars(endlessText)}, impl.MaxList), impl.ErrBad)
	check("endless attributes", []impl.Token{{Kind: impl.TkStart, Name: "a", Attrs: make([]impl.Attr, 1<<20)}, end("a")}, impl.ErrBad)
	// The longest texts that there are: what is written is at most MaxText.
	full := start("e")
	for i := range impl.MaxAttrs {
		full.Attrs = append(full.Attrs, impl.Attr{Name: string(rune('a' + i))})
	}
	long := within(slices.Repeat([]impl.Token{full, end("e")}, 299)...)
	long[1].Attrs = slices.Clone(long[1].Attrs)
	long[1].Attrs[0].Value = strings.Repeat("\"", bound-2-299*10)
	check("the longest text", long, impl.OK)
	long[1].Attrs[0].Value += "\""
	check("more than that", long, impl.ErrBad)
}

// madeTokens is a list that some text has, by a rule.
func madeTokens(source *rand.Rand) []impl.Token {
	list, _, _ := tokensOf(madeElement(source, 0))
	return list
}

func TestTokensAreReadBack(t *testing.T) {
	source := rand.New(rand.NewSource(7))
	for range 5000 {
		list := madeTokens(source)
		if len(list) == 0 {
			continue
		}
		checkList(t, list)
		i, j := source.Intn(len(list)), source.Intn(len(list))
		checkList(t, list[:i])
		checkList(t, list[i:])
		checkList(t, slices.Delete(slices.Clone(list), i, i+1))
		checkList(t, slices.Insert(slices.Clone(list), i, list[j]))
		swapped := slices.Clone(list)
		swapped[i], swapped[j] = swapped[j], swapped[i]
		checkList(t, swapped)
		other := slices.Clone(list)
		other[i].Kind = source.Intn(5)
		checkList(t, other)
		other[i] = list[i]
		other[i].Text += string(rune(source.Intn(0x10000)))
		checkList(t, other)
		other[i] = list[i]
		other[i].Name += string(rune(source.Intn(0x80)))
		checkList(t, other)
	}
	choices := []impl.Token{start("a"), end("a"), chars("x"), start("b", "c", "v"), end("b"), chars("")}
	for n := range 6 {
		for k := range int(math.Pow(6, float64(n))) {
			list := make([]impl.Token, n)
			for i := range list {
				list[i] = choices[k%6]
				k /= 6
			}
			checkList(t, list)
			checkList(t, within(list...))
		}
	}
}

func TestAttrsOfTokens(t *testing.T) {
	x := start("a", "b", "1", "c", "", "b", "2", "", "none", "d", "\xff\x00")
	for name, want := range map[string]string{"b": "1", "c": "", "": "none", "d": "\xff\x00"} {
		if v, code := impl.AttrOf(x, name); v != want || code != impl.OK {
			t.Errorf("AttrOf %q = %q, %d", name, v, code)
		}
	}
	for _, name := range []string{"a", "B", "bb", "b ", "1", "e", "\xff", fullText} {
		if v, code := impl.AttrOf(x, name); v != "" || code != impl.ErrNone {
			t.Errorf("AttrOf %q = %q, %d", brief(name), v, code)
		}
	}
	for _, x := range []impl.Token{{}, start("b"), end("b"), chars("b"), {Kind: impl.TkStart, Name: "b", Attrs: []impl.Attr{}}} {
		for _, name := range []string{"b", ""} {
			if v, code := impl.AttrOf(x, name); v != "" || code != impl.ErrNone {
				t.Errorf("AttrOf %q without attributes = %q, %d", name, v, code)
			}
		}
	}
	long := start("a", fullText, "full", longText, "long")
	if v, code := impl.AttrOf(long, fullText); v != "full" || code != impl.OK {
		t.Error("AttrOf a name of MaxText bytes:", v, code)
	}
	if v, code := impl.AttrOf(long, longText); v != "" || code != impl.ErrLong {
		t.Error("AttrOf a name beyond MaxText:", v, code)
	}
	// A token's attributes are bounded by no sentence.
	many := impl.Token{Kind: impl.TkText, Attrs: make([]impl.Attr, 2*impl.MaxList)}
	many.Attrs[len(many.Attrs)-1] = impl.Attr{Name: "z", Value: longText}
	if v, code := impl.AttrOf(many, "z"); v != longText || code != impl.OK {
		t.Error("AttrOf the last of many:", len(v), code)
	}
	list, _, _ := impl.XmlTokens("<a b='1 &amp; 2' c='x'/>")
	if v, code := impl.AttrOf(list[0], "b"); v != "1 & 2" || code != impl.OK {
		t.Error("AttrOf a token that was read:", v, code)
	}
}
