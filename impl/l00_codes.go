package impl

import "strconv"

const (
	MaxText = 65536
	MaxList = 4096
	MaxName = 40

	// The first number with more digits than a number's text has.
	tooGreat = 1000000000000000000

	OK          = 0
	ErrBad      = 1
	ErrLong     = 2
	ErrForm     = 3
	ErrRange    = 4
	ErrNone     = 5
	ErrMany     = 6
	ErrFull     = 7
	ErrSum      = 8
	ErrTwice    = 9
	ErrDepth    = 10
	ErrClose    = 11
	ErrEntity   = 12
	ErrRoot     = 13
	ErrState    = 14
	ErrReadOnly = 15
	ErrFlag     = 16
	ErrUid      = 17
	ErrMore     = 18
	ErrGone     = 19
)

var codeWords = [...]string{
	OK:          "ok",
	ErrBad:      "bad",
	ErrLong:     "long",
	ErrForm:     "form",
	ErrRange:    "range",
	ErrNone:     "none",
	ErrMany:     "many",
	ErrFull:     "full",
	ErrSum:      "sum",
	ErrTwice:    "twice",
	ErrDepth:    "depth",
	ErrClose:    "close",
	ErrEntity:   "entity",
	ErrRoot:     "root",
	ErrState:    "state",
	ErrReadOnly: "readonly",
	ErrFlag:     "flag",
	ErrUid:      "uid",
	ErrMore:     "more",
	ErrGone:     "gone",
}

func NameOK(t string) bool {
	if len(t) == 0 || len(t) > MaxName {
		return false
	}
	for i := range len(t) {
		if !beginsName(t[i]) && (i == 0 || !isDigit(t[i])) {
			return false
		}
	}
	return true
}

func beginsName(c byte) bool {
	return c >= 'a' && c <= 'z' || c >= 'A' && c <= 'Z' || c == '_'
}

func isDigit(c byte) bool {
	return c >= '0' && c <= '9'
}

// numberSaid is what a number's text says, and whether a text is one.
func numberSaid(t string) (int, bool) {
	// A number is told in one way alone, which has no sign or nought too many.
	n, err := strconv.Atoi(t)
	return n, err == nil && n > -tooGreat && n < tooGreat && strconv.Itoa(n) == t
}

func CodeWord(code int) string {
	if code < 0 || code >= len(codeWords) {
		return ""
	}
	return codeWords[code]
}

func CodeOf(word string) int {
	for code, w := range codeWords {
		if w == word {
			return code
		}
	}
	return -1
}
