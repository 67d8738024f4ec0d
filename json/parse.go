package json

import (
	"strconv"
	"strings"

	"lodestar/api"
)

// The bytes that tell of what follows.
const (
	blanks = " \t\n\r"
	digits = "0123456789"
	firsts = "{[\"tfn-" + digits // with which a value begins
)

// Parse answers the value that s is; else where it is first seen that s is none, and the error.
func Parse(s string) (api.Json, int, api.Errno) {
	r := &reader{s: s}
	j, e := r.whole()
	if e != api.OK {
		return api.Json{}, r.at, e
	}
	return j, 0, api.OK
}

// reader goes through a text. Beside an error of its calls at is the error's place.
type reader struct {
	s  string
	at int
}

// whole reads a value with blanks around, behind which nothing may stand.
func (r *reader) whole() (api.Json, api.Errno) {
	r.skip(blanks)
	j, e := r.value(1)
	if e != api.OK {
		return api.Json{}, e
	}
	r.skip(blanks)
	if r.at < len(r.s) {
		return api.Json{}, api.ErrJson
	}
	return j, api.OK
}

// value reads a value that is so deep.
func (r *reader) value(deep int) (api.Json, api.Errno) {
	first := r.next()
	if strings.IndexByte(firsts, first) < 0 {
		return api.Json{}, api.ErrJson
	}
	// What follows plays no part: no error of the value is seen ahead of its first byte.
	if deep > api.MaxJson {
		return api.Json{}, api.ErrDeep
	}
	switch first {
	case '{':
		return r.object(deep)
	case '[':
		return r.list(deep)
	case '"':
		text, e := r.text()
		return api.Json{Kind: api.JsonText, Text: text}, e
	case 't':
		return api.Json{Kind: api.JsonBool, N: 1}, r.word("true")
	case 'f':
		return api.Json{Kind: api.JsonBool}, r.word("false")
	case 'n':
		return api.Json{Kind: api.JsonNull}, r.word("null")
	}
	return r.number()
}

// object reads an object from its bracket on.
func (r *reader) object(deep int) (api.Json, api.Errno) {
	j := api.Json{Kind: api.JsonObject}
	seen := map[string]struct{}{}
	e := r.parts('}', func() api.Errno {
		name, e := r.name(seen)
		if e != api.OK {
			return e
		}
		r.skip(blanks)
		if !r.take(":") {
			return api.ErrJson
		}
		r.skip(blanks)
		part, e := r.value(deep + 1)
		j.Names = append(j.Names, name)
		j.List = append(j.List, part)
		return e
	})
	return j, e
}

// name reads a name that is not among those that were seen, and lays it there.
func (r *reader) name(seen map[string]struct{}) (string, api.Errno) {
	quote := r.at
	if r.next() != '"' {
		return "", api.ErrJson
	}
	name, e := r.text()
	if e != api.OK {
		return "", e
	}
	if _, twice := seen[name]; twice {
		r.at = quote
		return "", api.ErrTwice
	}
	seen[name] = struct{}{}
	return name, api.OK
}

// list reads a list from its bracket on.
func (r *reader) list(deep int) (api.Json, api.Errno) {
	j := api.Json{Kind: api.JsonList}
	e := r.parts(']', func() api.Errno {
		part, e := r.value(deep + 1)
		j.List = append(j.List, part)
		return e
	})
	return j, e
}

// parts reads brackets, the reader being at the first one, and what stands between them with commas between, each by a call of one.
func (r *reader) parts(end byte, one func() api.Errno) api.Errno {
	r.at++
	r.skip(blanks)
	if r.next() == end {
		r.at++
		return api.OK
	}
	for {
		if e := one(); e != api.OK {
			return e
		}
		r.skip(blanks)
		if r.next() == end {
			r.at++
			return api.OK
		}
		if !r.take(",") {
			return api.ErrJson
		}
		r.skip(blanks)
	}
}

// word reads this word.
func (r *reader) word(word string) api.Errno {
	for i := range len(word) {
		if !r.take(word[i : i+1]) {
			return api.ErrJson
		}
	}
	return api.OK
}

// number reads a number to its end ahead of judging it: one that breaks off is none, whatever stood ahead of that.
func (r *reader) number() (api.Json, api.Errno) {
	first := r.at
	r.take("-")
	// A number's 0 ends its digits: what stands behind it is not the number's.
	if !r.take("0") && !r.skip(digits) {
		return api.Json{}, api.ErrJson
	}
	whole := r.s[first:r.at]
	if r.take(".") && !r.skip(digits) {
		return api.Json{}, api.ErrJson
	}
	if r.take("eE") {
		r.take("+-")
		if !r.skip(digits) {
			return api.Json{}, api.ErrJson
		}
	}
	n, err := strconv.Atoi(whole)
	if r.at > first+len(whole) || err != nil || n < -maxWhole || n > maxWhole {
		r.at = first
		return api.Json{}, api.ErrNumber
	}
	return api.Json{Kind: api.JsonInt, N: n}, api.OK
}

// next answers the byte at which the reader is; behind the last one 0, which stands nowhere.
func (r *reader) next() byte {
	if r.at >= len(r.s) {
		return 0
	}
	return r.s[r.at]
}

// take goes past the next byte, if it is one of these; whether it was.
func (r *reader) take(these string) bool {
	if strings.IndexByte(these, r.next()) < 0 {
		return false
	}
	r.at++
	return true
}

// skip goes past all that follows of these bytes; whether there was one.
func (r *reader) skip(these string) bool {
	first := r.at
	for r.take(these) {
	}
	return r.at > first
}
