package tests

import (
	"fmt"
	"regexp"
	"strconv"
	"strings"
	"testing"
	"unicode/utf8"

	"loop.example/g00268/impl"
)

// Chapter 6 once more, by patterns: what XmlTokens answers is held against it.
var (
	xmlNamePattern   = regexp.MustCompile(`^[A-Za-z_][-A-Za-z0-9_.:]{0,39}$`)
	xmlNameSigns     = regexp.MustCompile(`^[-A-Za-z0-9_.:]*`)
	xmlBlankSigns    = regexp.MustCompile(`^[\t\n\r ]*`)
	xmlNothing       = regexp.MustCompile(`^(?s:<\?.*?\?>|<!--.*?-->)`)
	xmlPlain         = regexp.MustCompile(`^(?s:<!\[CDATA\[(.*?)\]\]>)`)
	xmlTextPattern   = regexp.MustCompile(`^[^<]+`)
	xmlValuePattern  = regexp.MustCompile(`^(?:"([^"]*)("?)|'([^']*)('?))`)
	xmlEntityPattern = regexp.MustCompile(`^&(?:amp|lt|gt|quot|apos|#[0-9]{1,8}|#x[0-9A-Fa-f]{1,7});`)
	xmlLinePattern   = regexp.MustCompile(`\r\n?`)
)

var xmlEntities = map[string]string{"&amp;": "&", "&lt;": "<", "&gt;": ">", "&quot;": "\"", "&apos;": "'"}

func xmlRune(r int) bool {
	return r == 9 || r == 10 || r == 13 || r >= 32 && isRune(r) && r != 0xfffe && r != 0xffff
}

type placedCode struct{ place, code int }

// tokenReader panics with a placedCode at the first fault.
type tokenReader struct {
	text string
	at   int
	list []impl.Token
	open []string
}

func tokensOf(text string) (list []impl.Token, place, code int) {
	if len(text) > impl.MaxText {
		return nil, 0, impl.ErrLong
	}
	r := &tokenReader{text: text}
	defer func() {
		switch f := recover().(type) {
		case placedCode:
			list, place, code = nil, f.place, f.code
		case nil:
		default:
			panic(f)
		}
	}()
	r.readAll()
	return r.list, len(text), impl.OK
}

func (r *tokenReader) fail(place, code int) { panic(placedCode{place, code}) }

func (r *tokenReader) readAll() {
	for i := 0; i < len(r.text); {
		c, size := utf8.DecodeRuneInString(r.text[i:])
		if c == utf8.RuneError && size == 1 || !xmlRune(int(c)) {
			r.fail(i, impl.ErrForm)
		}
		i += size
	}
	for r.at < len(r.text) {
		r.readOne(r.text[r.at:])
	}
	if len(r.open) > 0 {
		r.fail(len(r.text), impl.ErrClose)
	}
	if len(r.list) == 0 {
		r.fail(len(r.text), impl.ErrRoot)
	}
}

func (r *tokenReader) readOne(rest string) {
	begin := r.at
	if x := xmlNothing.FindString(rest); x != "" {
		r.at += len(x)
	} else if m := xmlPlain.FindStringSubmatch(rest); m != nil {
		r.at += len(m[0])
		r.addText(begin, xmlLinePattern.ReplaceAllString(m[1], "\n"), false)
	} else if strings.HasPrefix(rest, "<?") || strings.HasPrefix(rest, "<!") {
		r.fail(begin, impl.ErrForm)
	} else if strings.HasPrefix(rest, "</") {
		r.readEnd()
	} else if rest[0] == '<' {
		r.readStart()
	} else {
		x := xmlTextPattern.FindString(rest)
		text := r.plainOf(x)
		r.at += len(x)
		r.addText(begin, text, true)
	}
}

// plainOf is what a text or a value that begins where the reader stands says.
func (r *tokenReader) plainOf(x string) string {
	pieces := strings.Split(x, "&")
	at := r.at + len(pieces[0])
	text := xmlLinePattern.ReplaceAllString(pieces[0], "\n")
	for _, piece := range pieces[1:] {
		entity := xmlEntityPattern.FindString("&" + piece)
		char := entityChar(entity)
		if char == "" {
			r.fail(at, impl.ErrEntity)
		}
		text += char + xmlLinePattern.ReplaceAllString(piece[len(entity)-1:], "\n")
		at += 1 + len(piece)
	}
	return text
}

// entityChar is the empty text of what is no entity.
func entityChar(entity string) string {
	if char := xmlEntities[entity]; char != "" || entity == "" {
		return char
	}
	digits, base := entity[2:len(entity)-1], 10
	if digits[0] == 'x' {
		digits, base = digits[1:], 16
	}
	n, err := strconv.ParseInt(digits, base, 64)
	if err != nil || !xmlRune(int(n)) {
		return ""
	}
	return shortest(int(n))
}

func (r *tokenReader) addText(begin int, text string, blanksToo bool) {
	if len(r.open) == 0 {
		if !blanksToo || xmlBlankSigns.FindString(text) != text {
			r.fail(begin, impl.ErrRoot)
		}
		return
	}
	n := len(r.list)
	if r.list[n-1].Kind == impl.TkText {
		r.list[n-1].Text += text
	} else if text != "" {
		r.add(impl.Token{Kind: impl.TkText, Text: text})
	}
}

func (r *tokenReader) add(x impl.Token) {
	r.list = append(r.list, x)
	if len(r.list) > impl.MaxTokens {
		r.fail(r.at, impl.ErrMany)
	}
}

// pass goes over what a pattern finds where the reader stands.
func (r *tokenReader) pass(p *regexp.Regexp) string {
	x := p.FindString(r.text[r.at:])
	r.at += len(x)
	return x
}

func (r *tokenReader) passName() string {
	name := r.pass(xmlNameSigns)
	if !xmlNamePattern.MatchString(name) {
		r.fail(r.at, impl.ErrForm)
	}
	return name
}

func (r *tokenReader) passSign(sign string) {
	if !strings.HasPrefix(r.text[r.at:], sign) {
		r.fail(r.at, impl.ErrForm)
	}
	r.at += len(sign)
}

func (r *tokenReader) readEnd() {
	begin := r.at
	r.passSign("</")
	name := r.passName()
	r.pass(xmlBlankSigns)
	r.passSign(">")
	n := len(r.open)
	if n == 0 || r.open[n-1] != name {
		r.fail(begin, impl.ErrClose)
	}
	r.open = r.open[:n-1]
	r.add(impl.Token{Kind: impl.TkEnd, Name: name})
}

func (r *tokenReader) readStart() {
	begin := r.at
	r.passSign("<")
	x := impl.Token{Kind: impl.TkStart, Name: r.passName()}
	if len(r.open) == 0 && len(r.list) > 0 {
		r.fail(begin, impl.ErrRoot)
	}
	if len(r.open) >= impl.MaxDepth {
		r.fail(begin, impl.ErrDepth)
	}
	seen := map[string]bool{}
	for r.pass(xmlBlankSigns) != "" && r.at < len(r.text) && !strings.ContainsAny(r.text[r.at:r.at+1], "/>") {
		place := r.at
		a := impl.Attr{Name: r.passName()}
		r.pass(xmlBlankSigns)
		r.passSign("=")
		r.pass(xmlBlankSigns)
		a.Value = r.passValue()
		if seen[a.Name] {
			r.fail(place, impl.ErrTwice)
		}
		if len(x.Attrs) >= impl.MaxAttrs {
			r.fail(place, impl.ErrMany)
		}
		seen[a.Name] = true
		x.Attrs = append(x.Attrs, a)
	}
	if ends := strings.HasPrefix(r.text[r.at:], "/"); ends {
		r.passSign("/")
		r.passSign(">")
		r.add(x)
		r.add(impl.Token{Kind: impl.TkEnd, Name: x.Name})
		return
	}
	r.passSign(">")
	r.add(x)
	r.open = append(r.open, x.Name)
}

func (r *tokenReader) passValue() string {
	m := xmlValuePattern.FindStringSubmatch(r.text[r.at:])
	if m == nil {
		r.fail(r.at, impl.ErrForm)
	}
	r.at++
	value := r.plainOf(m[1] + m[3])
	r.at += len(m[0]) - 1
	if m[2]+m[4] == "" {
		r.fail(r.at, impl.ErrForm)
	}
	return value
}

func start(name string, namesAndValues ...string) impl.Token {
	x := impl.Token{Kind: impl.TkStart, Name: name}
	for i := 0; i < len(namesAndValues); i += 2 {
		x.Attrs = append(x.Attrs, impl.Attr{Name: namesAndValues[i], Value: namesAndValues[i+1]})
	}
	return x
}

func end(name string) impl.Token { return impl.Token{Kind: impl.TkEnd, Name: name} }

func chars(text string) impl.Token { return impl.Token{Kind: impl.TkText, Text: text} }

// rightList is chapter 6's rule of the tokens that some text has: what begins ends.
func rightList(list []impl.Token) bool {
	size := 0
	var open []string
	for i, x := range list {
		size += len(x.Name) + len(x.Text)
		for _, a := range x.Attrs {
			size += len(a.Name) + len(a.Value)
		}
		right := false
		switch x.Kind {
		case impl.TkStart:
			right = xmlNamePattern.MatchString(x.Name) && x.Text == "" && rightAttrs(x.Attrs) && len(open) < impl.MaxDepth && (i == 0 || len(open) > 0)
			open = append(open, x.Name)
		case impl.TkEnd:
			right = len(open) > 0 && open[len(open)-1] == x.Name && x.Text == "" && len(x.Attrs) == 0
			open = open[:max(len(open)-1, 0)]
		case impl.TkText:
			right = len(open) > 0 && x.Name == "" && len(x.Attrs) == 0 && x.Text != "" && ofXmlRunes(x.Text) && list[i-1].Kind != impl.TkText
		}
		if !right {
			return false
		}
	}
	return 0 < len(list) && len(list) <= impl.MaxTokens && len(open) == 0 && size <= impl.MaxText/8
}

func rightAttrs(attrs []impl.Attr) bool {
	seen := map[string]bool{}
	for _, a := range attrs {
		if seen[a.Name] || !xmlNamePattern.MatchString(a.Name) || !ofXmlRunes(a.Value) {
			return false
		}
		seen[a.Name] = true
	}
	return len(attrs) <= impl.MaxAttrs
}

func ofXmlRunes(t string) bool {
	for _, r := range t {
		if !xmlRune(int(r)) {
			return false
		}
	}
	return utf8.ValidString(t)
}

var xmlEscapes = strings.NewReplacer("&", "&amp;", "<", "&lt;", ">", "&gt;", "\"", "&quot;", "\r", "&#13;")

func textOf(list []impl.Token) string {
	var b strings.Builder
	for _, x := range list {
		switch x.Kind {
		case impl.TkStart:
			b.WriteString("<" + x.Name)
			for _, a := range x.Attrs {
				b.WriteString(" " + a.Name + "=\"" + xmlEscapes.Replace(a.Value) + "\"")
			}
			b.WriteString(">")
		case impl.TkEnd:
			b.WriteString("</" + x.Name + ">")
		case impl.TkText:
			b.WriteString(xmlEscapes.Replace(x.Text))
		}
	}
	return b.String()
}

func sameTokens(a, b []impl.Token) bool {
	if len(a) != len(b) {
		return false
	}
	for i, x := range a {
		y := b[i]
		if x.Kind != y.Kind || x.Name != y.Name || x.Text != y.Text || len(x.Attrs) != len(y.Attrs) {
			return false
		}
		for j := range x.Attrs {
			if x.Attrs[j] != y.Attrs[j] {
				return false
			}
		}
	}
	return true
}

// shown is a list as a message tells it.
func shown(list []impl.Token) string {
	return fmt.Sprintf("%.300s", fmt.Sprintf("%+v", list))
}

// checkTokens holds a text's tokens against the patterns, and asks for promise 6 of them; it says the code.
func checkTokens(t *testing.T, text string) int {
	t.Helper()
	want, wantPlace, wantCode := tokensOf(text)
	list, place, code := impl.XmlTokens(text)
	if !sameTokens(list, want) || place != wantPlace || code != wantCode {
		t.Errorf("XmlTokens(%.200q) = %s, %d, %d, not %s, %d, %d", text, shown(list), place, code, shown(want), wantPlace, wantCode)
	}
	if code == impl.OK {
		checkList(t, list)
	}
	return code
}

// checkList asks TokensText for a list that some text has, or none.
func checkList(t *testing.T, list []impl.Token) {
	t.Helper()
	want, wantCode := "", impl.ErrBad
	if rightList(list) {
		want, wantCode = textOf(list), impl.OK
	} else if len(list) > impl.MaxList {
		wantCode = impl.ErrLong
	}
	text, code := impl.TokensText(list)
	if text != want || code != wantCode {
		t.Errorf("TokensText(%s) = %.200q, %d, not %.200q, %d", shown(list), text, code, want, wantCode)
	}
	if wantCode != impl.OK {
		return
	}
	if back, place, code := impl.XmlTokens(want); !sameTokens(back, list) || place != len(want) || code != impl.OK {
		t.Errorf("XmlTokens(%.200q) = %s, %d, %d", want, shown(back), place, code)
	}
}
