package json

import (
	"strconv"
	"strings"
	"unicode/utf8"

	"lodestar/api"
)

// The letters of escapes, and at the same places what they mean. The first ones are printed as escapes, too.
const (
	letters = "\"\\bfnrt/"
	meant   = "\"\\\b\f\n\r\t/"
	printed = len(letters) - 1
)

// The halves of runes above U+FFFF: ten bits stand in each.
const (
	firstHalf  = 0xD800
	secondHalf = 0xDC00
	behindHalf = 0xE000
	halfBits   = 10
	aboveHalf  = 0x10000
)

// unitSize is how many bytes \u and its digits are.
const unitSize = len(`\u0000`)

// text reads a text from its quote on, and answers what it means.
func (r *reader) text() (string, api.Errno) {
	first := r.at + 1
	rest := r.s[first:]
	var out []byte
	done := 0 // up to here an escape was read
	for i, c := range rest {
		if i < done {
			continue
		}
		r.at = first + i
		switch {
		case c == '"':
			r.at++
			return string(out), api.OK
		case c == '\\':
			size := 0
			if c, size = escape(rest[i:]); size == 0 {
				return "", api.ErrJson
			}
			done = i + size
		case c < ' ' || c == utf8.RuneError && !strings.HasPrefix(rest[i:], string(utf8.RuneError)):
			// The range tells of a byte that belongs to no rune as of the rune U+FFFD, which may stand.
			return "", api.ErrJson
		}
		out = utf8.AppendRune(out, c)
	}
	r.at = len(r.s)
	return "", api.ErrJson
}

// escape answers the rune that the escape means with which s begins, and how many bytes the escape has; 0, if it is none.
func escape(s string) (rune, int) {
	if len(s) < 2 {
		return 0, 0
	}
	if i := strings.IndexByte(letters, s[1]); i >= 0 {
		return rune(meant[i]), 2
	}
	c, ok := unit(s)
	if !ok {
		return 0, 0
	}
	if c < firstHalf || c >= behindHalf {
		return c, unitSize
	}
	second, ok := unit(s[unitSize:])
	if !ok || c >= secondHalf || second < secondHalf || second >= behindHalf {
		return 0, 0
	}
	return aboveHalf + (c-firstHalf)<<halfBits + second - secondHalf, 2 * unitSize
}

// unit answers the number of the \u and four digits with which s begins.
func unit(s string) (rune, bool) {
	if len(s) < unitSize || s[:2] != `\u` {
		return 0, false
	}
	n, err := strconv.ParseUint(s[2:unitSize], 16, 16)
	return rune(n), err == nil
}
