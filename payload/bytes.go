package payload

import (
	"strings"

	"lodestar/api"
	"lodestar/num"
)

// How many bytes the numbers have that are no field's.
const (
	idWidth    = 8
	partWidth  = 2
	shortWidth = 1 // of kinds, of counts, and of how long names are
)

// Encode answers p's bytes; ErrPoint, if it may not be.
func Encode(p api.Point) (string, api.Errno) {
	if !pointMayBe(p) {
		return "", api.ErrPoint
	}
	var w writer
	w.number(p.Id, idWidth)
	w.number(len(p.Vectors), shortWidth)
	for _, v := range p.Vectors {
		w.text(v.Name, shortWidth)
		w.number(len(v.V), shortWidth)
		for _, n := range v.V {
			w.number(n-leastPart, partWidth)
		}
	}
	w.number(len(p.Fields), shortWidth)
	for _, f := range p.Fields {
		w.text(f.Name, shortWidth)
		w.value(f.Value)
	}
	return w.laid.String(), api.OK
}

// Decode answers the point with which s begins, and how many bytes it has; ErrBytes, if no point that may be has such bytes.
func Decode(s string) (api.Point, int, api.Errno) {
	r := reader{rest: s}
	p := api.Point{Id: r.number(idWidth)}
	p.Vectors = several(&r, r.vec)
	p.Fields = several(&r, r.field)
	if r.short || !pointMayBe(p) {
		return api.Point{}, 0, api.ErrBytes
	}
	return p, len(s) - len(r.rest), api.OK
}

// writer lays down the parts of a point that may be, one behind the other.
type writer struct {
	laid strings.Builder
}

// number lays n, modulo 2^64. All numbers of a point that may be fit.
func (w *writer) number(n, width int) {
	s, _ := num.Fix(uint64(n), width)
	w.laid.WriteString(s)
}

// text lays s behind its length, which has so many bytes.
func (w *writer) text(s string, width int) {
	w.number(len(s), width)
	w.laid.WriteString(s)
}

// value lays v behind its kind.
func (w *writer) value(v api.Value) {
	s, _ := sizeOf(v.Kind)
	w.number(v.Kind, shortWidth)
	if v.Kind == api.KindWord {
		w.text(v.Text, s.width)
	} else {
		w.number(v.N, s.width)
	}
}

// reader takes parts from the beginning of rest. It knows nothing of which may be: where bytes lack, it goes on with noughts and is short.
type reader struct {
	rest  string
	short bool
}

// take answers the next count bytes.
func (r *reader) take(count int) string {
	if count > len(r.rest) {
		r.rest, r.short = "", true
		return ""
	}
	s := r.rest[:count]
	r.rest = r.rest[count:]
	return s
}

// number answers the number that has the next so many bytes.
func (r *reader) number(width int) int {
	n, _ := num.Unfix(r.take(width))
	return int(n)
}

// text answers the text behind its length, which has so many bytes.
func (r *reader) text(width int) string {
	// A part of rest would keep the whole of it.
	return strings.Clone(r.take(r.number(width)))
}

func (r *reader) vec() api.Vec {
	name := r.text(shortWidth)
	return api.Vec{Name: name, V: several(r, r.part)}
}

func (r *reader) part() int {
	return r.number(partWidth) + leastPart
}

func (r *reader) field() api.Field {
	name := r.text(shortWidth)
	return api.Field{Name: name, Value: r.value()}
}

// value answers the value behind its kind; of what is no kind, one that may not be.
func (r *reader) value() api.Value {
	kind := r.number(shortWidth)
	s, _ := sizeOf(kind)
	if kind == api.KindWord {
		return api.Value{Kind: kind, Text: r.text(s.width)}
	}
	return api.Value{Kind: kind, N: r.number(s.width)}
}

// several answers as many things as the next byte says, each as one reads it.
func several[T any](r *reader, one func() T) []T {
	var l []T
	for range r.number(shortWidth) {
		l = append(l, one())
	}
	return l
}
