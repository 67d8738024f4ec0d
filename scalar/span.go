package scalar

import "lodestar/api"

// top is the greatest code: a code is a byte.
const top = 255

// span is what was learnt of a component: its least and its greatest value.
type span struct {
	low, high int
}

// with answers the span of x and all that s spans.
func (s span) with(x int) span {
	return span{min(s.low, x), max(s.high, x)}
}

// code answers the byte for x, which may lie outside of s.
func (s span) code(x int) byte {
	switch {
	case x < s.low:
		return 0
	case x > s.high:
		return top
	case s == span{x, x}: // of one value alone there is no width to divide by
		return 0
	}
	return byte((x - s.low) * top / (s.high - s.low))
}

// value answers the component for the byte c. It lies in s.
func (s span) value(c byte) int {
	return s.low + int(c)*(s.high-s.low)/top
}

// step answers what a value of s and that of its code differ by at most: code and value both round downwards.
func (s span) step() int {
	return (s.high-s.low)/top + 1
}

// learn answers the spans of the components of all vectors of l, which is not empty.
func learn(l [][]int, dim int) []span {
	spans := make([]span, dim)
	for i, x := range l[0] {
		spans[i] = span{x, x}
	}
	for _, v := range l[1:] {
		for i, x := range v {
			spans[i] = spans[i].with(x)
		}
	}
	return spans
}

// quantizer answers what spans says, as it is handed out.
func quantizer(spans []span) api.Scalar {
	var q api.Scalar
	for _, s := range spans {
		q.Low = append(q.Low, s.low)
		q.High = append(q.High, s.high)
	}
	return q
}

// spansOf answers what q says of each component; false, if q may not be.
func spansOf(q api.Scalar) ([]span, bool) {
	dim := len(q.Low)
	if !isVector(q.Low, dim) || !isVector(q.High, dim) {
		return nil, false
	}
	spans := make([]span, dim)
	for i, low := range q.Low {
		if low > q.High[i] {
			return nil, false
		}
		spans[i] = span{low, q.High[i]}
	}
	return spans, true
}

// encode is Encode of a vector that fits.
func encode(spans []span, v []int) string {
	codes := make([]byte, len(spans))
	for i, s := range spans {
		codes[i] = s.code(v[i])
	}
	return string(codes)
}

// decode is Decode of as many bytes as there are spans.
func decode(spans []span, codes string) []int {
	v := make([]int, len(spans))
	for i, s := range spans {
		v[i] = s.value(codes[i])
	}
	return v
}
