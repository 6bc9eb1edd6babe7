package impl

import "strings"

const (
	lastRune = 0x10ffff

	// A range over a string gives this rune at each byte at which none
	// begins, and also where the rune itself stands.
	standIn     = 0xfffd
	standInText = "\ufffd"
)

func ValidText(t string) bool {
	return len(t) <= MaxText && isRight(t)
}

// isRight asks for the bytes of each stand-in, as these alone tell a rune that
// stands in the text from a byte at which none begins.
func isRight(t string) bool {
	for i, r := range t {
		if r == standIn && !strings.HasPrefix(t[i:], standInText) {
			return false
		}
	}
	return true
}

func RepairText(t string) (string, int) {
	if len(t) > MaxText {
		return "", ErrLong
	}
	runes := make([]rune, 0, len(t))
	for _, r := range t {
		runes = append(runes, r)
	}
	return string(runes), OK
}

func RunesOf(t string) ([]int, int) {
	if len(t) > MaxText {
		return nil, ErrLong
	}
	if !isRight(t) {
		return nil, ErrForm
	}
	var list []int
	for _, r := range t {
		list = append(list, int(r))
	}
	return list, OK
}

func TextOfRunes(list []int) (string, int) {
	if len(list) > MaxList {
		return "", ErrLong
	}
	runes := make([]rune, 0, len(list))
	for _, r := range list {
		// Ahead of the conversion, which would wrap a great number to a rune.
		if RuneSize(r) == 0 {
			return "", ErrRange
		}
		runes = append(runes, rune(r))
	}
	return string(runes), OK
}

func RuneSize(r int) int {
	switch {
	case r < 0 || r > lastRune || r >= 0xd800 && r <= 0xdfff:
		return 0
	case r < 0x80:
		return 1
	case r < 0x800:
		return 2
	case r < 0x10000:
		return 3
	}
	return 4
}

func CutRunes(t string, n int) (string, int) {
	if len(t) > MaxText {
		return "", ErrLong
	}
	if !isRight(t) {
		return "", ErrForm
	}
	if n < 0 {
		return "", ErrRange
	}
	// A piece of t would share its memory.
	return strings.Clone(t[:cutPlace(t, n)]), OK
}

// cutPlace is the last place up to n at which a rune of t begins or t ends.
func cutPlace(t string, n int) int {
	if n >= len(t) {
		return len(t)
	}
	place := 0
	for i := range t {
		if i > n {
			break
		}
		place = i
	}
	return place
}
