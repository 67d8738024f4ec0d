package segment

import (
	"strings"

	"lodestar/api"
	"lodestar/num"
	"lodestar/payload"
)

// How a segment lies: the letters, how many versions, these, and the sum of all that. A version is its Seq, a mark, and what follows that.
const (
	letters     = "LSEG"
	countWidth  = 4
	seqWidth    = 8
	markWidth   = 1
	markStands  = "\x00" // the length of the point's bytes, and these
	markGone    = "\x01" // the Id
	lengthWidth = 4
	idWidth     = 8
	sumWidth    = 4
)

// Encode answers the bytes of s; ErrSegment, if it may not be.
func Encode(s api.Segment) (string, api.Errno) {
	if !rises(s.Versions) {
		return "", api.ErrSegment
	}
	parts := []string{letters, fixed(len(s.Versions), countWidth)}
	for _, v := range s.Versions {
		b, e := encode(v)
		if e != api.OK {
			return "", e
		}
		parts = append(parts, b)
	}
	all := lay(parts...)
	return lay(all, sum(all)), api.OK
}

// encode answers the bytes of v; ErrSegment, if it may not be.
func encode(v api.Version) (string, api.Errno) {
	if !isNumber(v.Seq) || v.Gone && !isBare(v.Point) {
		return "", api.ErrSegment
	}
	seq := fixed(v.Seq, seqWidth)
	if v.Gone {
		return lay(seq, markGone, fixed(v.Point.Id, idWidth)), api.OK
	}
	s, e := payload.Encode(v.Point)
	if e != api.OK {
		return "", api.ErrSegment
	}
	return lay(seq, markStands, fixed(len(s), lengthWidth), s), api.OK
}

// mayBe tells whether v may be: whether it has bytes.
func mayBe(v api.Version) bool {
	_, e := encode(v)
	return e == api.OK
}

// isNumber tells whether n may be a Seq, or an Id.
func isNumber(n int) bool { return 1 <= n && n <= api.MaxId }

// isBare tells whether p has an Id that may be, and nothing else.
func isBare(p api.Point) bool {
	return isNumber(p.Id) && len(p.Vectors) == 0 && len(p.Fields) == 0
}

// rises tells whether the Ids of l rise.
func rises(l []api.Version) bool {
	for i := 1; i < len(l); i++ {
		if l[i].Point.Id <= l[i-1].Point.Id {
			return false
		}
	}
	return true
}

// Decode answers the segment that has just the bytes s; ErrSegment, if there is none.
func Decode(s string) (api.Segment, api.Errno) {
	rest, ok := within(s)
	if !ok {
		return api.Segment{}, api.ErrSegment
	}
	r := reader{rest}
	var l []api.Version
	for range r.number(countWidth) {
		// One that lacks ends the loop, however many the count promises.
		v, ok := r.version()
		if !ok {
			return api.Segment{}, api.ErrSegment
		}
		l = append(l, v)
	}
	if r.rest != "" || !rises(l) {
		return api.Segment{}, api.ErrSegment
	}
	return api.Segment{Versions: l}, api.OK
}

// within answers what stands in s between the letters and the sum, from the count on; false, if s lacks one of them, or the sum does not hold.
func within(s string) (string, bool) {
	end := len(s) - sumWidth
	if end < len(letters)+countWidth || !strings.HasPrefix(s, letters) || s[end:] != sum(s[:end]) {
		return "", false
	}
	return s[len(letters):end], true
}

// reader takes parts from the beginning of rest. Where bytes lack, it takes none and answers zero: no Seq, no mark, no Id and no point that may be.
type reader struct {
	rest string
}

// take answers the next size bytes.
func (r *reader) take(size int) string {
	if size > len(r.rest) {
		return ""
	}
	s := r.rest[:size]
	r.rest = r.rest[size:]
	return s
}

// number answers the number that has the next width bytes.
func (r *reader) number(width int) int {
	n, _ := num.Unfix(r.take(width))
	return int(n)
}

// version answers the next version; false, if none that may be follows.
func (r *reader) version() (api.Version, bool) {
	v := api.Version{Seq: r.number(seqWidth)}
	ok := false
	switch r.take(markWidth) {
	case markStands:
		v.Point, ok = r.point()
	case markGone:
		v.Gone = true
		v.Point.Id = r.number(idWidth)
		ok = isNumber(v.Point.Id)
	}
	return v, ok && isNumber(v.Seq)
}

// point answers the point whose bytes stand behind their length; false, if they are none's, or more than its.
func (r *reader) point() (api.Point, bool) {
	s := r.take(r.number(lengthWidth))
	p, size, e := payload.Decode(s)
	return p, e == api.OK && size == len(s)
}

// lay answers the parts, one behind the other.
func lay(parts ...string) string {
	size := 0
	for _, part := range parts {
		size += len(part)
	}
	b := make([]byte, size)
	at := 0
	for _, part := range parts {
		at += copy(b[at:], part)
	}
	return string(b)
}

// sum answers the check sum of s, as it stands in a segment.
func sum(s string) string {
	return fixed(int(num.Sum(s)), sumWidth)
}

// fixed answers n in width bytes, into which it fits.
func fixed(n, width int) string {
	s, _ := num.Fix(uint64(n), width)
	return s
}
