package payload

import (
	"bytes"
	"encoding/binary"
	"io"
	"math/rand/v2"
	"regexp"
	"slices"
	"strings"
	"testing"
	"unicode/utf8"

	"lodestar/api"
)

// A model that goes another way: names by a pattern, order by sorting, bytes by the library's fixed ones.

var namePattern = regexp.MustCompile(`\A[A-Za-z_][0-9A-Za-z_]{0,31}\z`)

// modelNames tells whether they are names that rise, from least to most of them.
func modelNames(l []string, least, most int) bool {
	for _, name := range l {
		if !namePattern.MatchString(name) {
			return false
		}
	}
	sorted := slices.Compact(slices.Sorted(slices.Values(l)))
	return len(l) >= least && len(l) <= most && slices.Equal(sorted, l)
}

func modelPart(n int) bool { return int(int16(n)) == n }

// modelValue tells whether v may be.
func modelValue(v api.Value) bool {
	switch (api.Value{Kind: v.Kind}) {
	case api.Value{Kind: 1}:
		return v.N >= -(1<<52) && v.N <= 1<<52 && v == api.Value{Kind: 1, N: v.N}
	case api.Value{Kind: 2}:
		return utf8.ValidString(v.Text) && len(v.Text) < 257 && v == api.Value{Kind: 2, Text: v.Text}
	}
	return v == api.Value{Kind: 3} || v == api.Value{Kind: 3, N: 1}
}

// modelOutline tells whether p may be for its Id, counts and names.
func modelOutline(p api.Point) bool {
	var vectors, fields []string
	for _, v := range p.Vectors {
		vectors = append(vectors, v.Name)
	}
	for _, f := range p.Fields {
		fields = append(fields, f.Name)
	}
	return p.Id > 0 && p.Id <= 1<<52 && modelNames(vectors, 1, 4) && modelNames(fields, 0, 16)
}

// modelPoint tells whether p may be.
func modelPoint(p api.Point) bool {
	for _, v := range p.Vectors {
		if len(v.V) < 1 || len(v.V) > 64 || slices.ContainsFunc(v.V, func(n int) bool { return !modelPart(n) }) {
			return false
		}
	}
	return modelOutline(p) && !slices.ContainsFunc(p.Fields, func(f api.Field) bool { return !modelValue(f.Value) })
}

// modelSchema tells whether s may be.
func modelSchema(s api.Schema) bool {
	var vectors, fields []string
	good := true
	for _, x := range s.Vectors {
		vectors = append(vectors, x.Name)
		good = good && x.Dim > 0 && x.Dim < 65 && slices.Contains([]int{1, 2, 3}, x.Metric)
	}
	for _, x := range s.Fields {
		fields = append(fields, x.Name)
		good = good && slices.Contains([]int{1, 2, 3}, x.Kind)
	}
	return good && modelNames(vectors, 1, 4) && modelNames(fields, 0, 16)
}

// modelCheck is what Check is to answer.
func modelCheck(s api.Schema, p api.Point) api.Errno {
	if !modelSchema(s) {
		return api.ErrSchema
	}
	if !modelOutline(p) {
		return api.ErrPoint
	}
	specs, kinds := map[string]api.VecSpec{}, map[string]int{}
	for _, x := range s.Vectors {
		specs[x.Name] = x
	}
	for _, x := range s.Fields {
		kinds[x.Name] = x.Kind
	}
	for _, v := range p.Vectors {
		x, ok := specs[v.Name]
		noughts := slices.Equal(v.V, make([]int, len(v.V)))
		if !ok || len(v.V) != x.Dim || x.Metric == 3 && noughts || slices.ContainsFunc(v.V, func(n int) bool { return !modelPart(n) }) {
			return api.ErrVector
		}
	}
	for _, f := range p.Fields {
		if kinds[f.Name] != f.Value.Kind || !modelValue(f.Value) {
			return api.ErrField
		}
	}
	return api.OK
}

// modelEncode is what Encode is to answer for a point that may be.
func modelEncode(p api.Point) string {
	b := binary.LittleEndian.AppendUint64(nil, uint64(p.Id))
	b = append(b, byte(len(p.Vectors)))
	for _, v := range p.Vectors {
		b = append(append(b, byte(len(v.Name))), v.Name...)
		b = append(b, byte(len(v.V)))
		for _, n := range v.V {
			b = binary.LittleEndian.AppendUint16(b, uint16(n+32768))
		}
	}
	b = append(b, byte(len(p.Fields)))
	for _, f := range p.Fields {
		b = append(append(b, byte(len(f.Name))), f.Name...)
		b = append(b, byte(f.Value.Kind))
		switch f.Value.Kind {
		case 1:
			b = binary.LittleEndian.AppendUint64(b, uint64(f.Value.N))
		case 2:
			b = append(binary.LittleEndian.AppendUint16(b, uint16(len(f.Value.Text))), f.Value.Text...)
		case 3:
			b = append(b, byte(f.Value.N))
		}
	}
	return string(b)
}

// feed reads a text by the library; it panics with an error where bytes lack.
type feed struct{ *bytes.Reader }

func (f feed) text(size int) string {
	b := make([]byte, size)
	if _, err := io.ReadFull(f, b); err != nil {
		panic(err)
	}
	return string(b)
}

func (f feed) byte() int   { return int(f.text(1)[0]) }
func (f feed) short() int  { return int(binary.LittleEndian.Uint16([]byte(f.text(2)))) }
func (f feed) number() int { return int(binary.LittleEndian.Uint64([]byte(f.text(8)))) }

// modelDecode is what Decode is to answer.
func modelDecode(s string) (p api.Point, n int, e api.Errno) {
	defer func() {
		if recover() != nil || !modelPoint(p) {
			p, n, e = api.Point{}, 0, api.ErrBytes
		}
	}()
	f := feed{bytes.NewReader([]byte(s))}
	p.Id = f.number()
	for range f.byte() {
		v := api.Vec{Name: f.text(f.byte())}
		for range f.byte() {
			v.V = append(v.V, f.short()-32768)
		}
		p.Vectors = append(p.Vectors, v)
	}
	for range f.byte() {
		name := f.text(f.byte())
		v := api.Value{Kind: f.byte()}
		switch v.Kind {
		case 1:
			v.N = f.number()
		case 2:
			v.Text = f.text(f.short())
		case 3:
			v.N = f.byte()
		}
		p.Fields = append(p.Fields, api.Field{Name: name, Value: v})
	}
	return p, len(s) - f.Len(), api.OK
}

// compareDecode wants of Decode what the model answers.
func compareDecode(t *testing.T, s string) api.Errno {
	t.Helper()
	p, n, e := Decode(s)
	if want, m, f := modelDecode(s); !Same(p, want) || n != m || e != f {
		t.Fatalf("Decode(%q) = %v, %d, %d, want %v, %d, %d", s, p, n, e, want, m, f)
	}
	return e
}

// drawer draws schemas and points.
type drawer struct{ *rand.Rand }

// some draws some of l, in their order.
func some[T any](d drawer, l []T) []T {
	var out []T
	for _, x := range l {
		if d.IntN(3) > 0 {
			out = append(out, x)
		}
	}
	return out
}

// schema draws one that may be.
func (d drawer) schema() api.Schema {
	l := []string{"A", "B0", "Z_z", "_", "a", "a0", "ab", "b", strings.Repeat("c", 32), "v", "w", "z"}
	at := d.IntN(len(l))
	vectors := append([]string{l[at]}, some(d, l[at+1:])...)
	var s api.Schema
	for _, name := range vectors[:min(len(vectors), 4)] {
		s.Vectors = append(s.Vectors, spec(name, 1+d.IntN(1<<d.IntN(7)), 1+d.IntN(3)))
	}
	for _, name := range some(d, l) {
		s.Fields = append(s.Fields, fieldSpec(name, 1+d.IntN(3)))
	}
	return s
}

// value draws one of that kind that may be.
func (d drawer) value(kind int) api.Value {
	l := goodValues()
	for {
		if v := l[d.IntN(len(l))]; v.Kind == kind {
			return v
		}
	}
}

// point draws one that s takes.
func (d drawer) point(s api.Schema) api.Point {
	p := api.Point{Id: 1 + d.IntN(1<<d.IntN(53))}
	for _, x := range append(some(d, s.Vectors), s.Vectors[len(s.Vectors)-1]) {
		v := api.Vec{Name: x.Name}
		for range x.Dim {
			v.V = append(v.V, d.IntN(1<<16)-1<<15)
		}
		v.V[0] |= 1 // not all are 0
		p.Vectors = append(p.Vectors, v)
	}
	p.Vectors = slices.CompactFunc(p.Vectors, func(a, b api.Vec) bool { return a.Name == b.Name })
	for _, x := range some(d, s.Fields) {
		p.Fields = append(p.Fields, field(x.Name, d.value(x.Kind)))
	}
	return p
}

// broken draws a schema and a point that are those but for a few things.
func (d drawer) broken(s api.Schema, p api.Point) (api.Schema, api.Point) {
	odd := []int{-1, 0, 1, 2, 3, 4, 64, 65, 32767, 32768, -32768, -32769, 1 << 52, 1<<52 + 1, -1 << 52, -1<<52 - 1}
	called := []string{"", "a", "A", "_", "a-", "zz", strings.Repeat("d", 33), "\u00fc"}
	n, name := odd[d.IntN(len(odd))], called[d.IntN(len(called))]
	switch i, k := d.IntN(len(p.Vectors)), d.IntN(len(s.Vectors)); d.IntN(12) {
	case 0:
		p.Id = n
	case 1:
		p.Vectors[i].Name = name
	case 2:
		p.Vectors[i].V[d.IntN(len(p.Vectors[i].V))] = n
	case 3:
		p.Vectors[i].V = make([]int, len(p.Vectors[i].V))
	case 4:
		p.Vectors[i].V = append(p.Vectors[i].V, n)
	case 5:
		p.Vectors = append(p.Vectors, vec(name, 1))
	case 6:
		s.Vectors[k] = spec(s.Vectors[k].Name, s.Vectors[k].Dim, n)
	case 7:
		s.Vectors[k].Dim = n
	case 8:
		s.Fields = append(s.Fields, fieldSpec(name, n))
	case 9:
		p.Fields = append(p.Fields, field(name, whole(n)))
	}
	if len(p.Fields) > 0 {
		f := &p.Fields[d.IntN(len(p.Fields))]
		switch d.IntN(8) {
		case 0:
			f.Name = name
		case 1:
			f.Value.Kind = n
		case 2:
			f.Value.N = n
		case 3:
			f.Value.Text += name
		case 4:
			f.Value = badValues()[d.IntN(len(badValues()))]
		}
	}
	return s, p
}

func TestDrawnPoints(t *testing.T) { // 5.1, 5.3, 5.4: what Check takes may be encoded, and is read as it was
	for seed := range uint64(4000) {
		d := drawer{rand.New(rand.NewPCG(seed, 5))}
		s := d.schema()
		p := d.point(s)
		if e := Check(s, p); e != api.OK || modelCheck(s, p) != api.OK {
			t.Fatalf("Check(%v, %v) = %d", s, p, e)
		}
		b, e := Encode(p)
		if b != modelEncode(p) || e != api.OK {
			t.Fatalf("Encode(%v) = %q, %d", p, b, e)
		}
		behind := strings.Repeat("\x01", d.IntN(20))
		if back, n, e := Decode(b + behind); !Same(back, p) || n != len(b) || e != api.OK {
			t.Fatalf("Decode(%q) = %v, %d, %d", b+behind, back, n, e)
		}
		compareDecode(t, b+behind)
	}
}

func TestBrokenPoints(t *testing.T) { // 5.1, 5.3, 5.4
	seen := map[api.Errno]int{}
	for seed := range uint64(40000) {
		d := drawer{rand.New(rand.NewPCG(seed, 6))}
		s := d.schema()
		s, p := d.broken(s, d.point(s))
		e := Check(s, p)
		if want := modelCheck(s, p); e != want {
			t.Fatalf("Check(%v, %v) = %d, want %d", s, p, e, want)
		}
		seen[e]++
		want := api.OK
		if !modelPoint(p) {
			want = api.ErrPoint
		}
		b, f := Encode(p)
		if f != want || f != api.OK && b != "" || f == api.OK && b != modelEncode(p) || e == api.OK && f != api.OK {
			t.Fatalf("Encode(%v) = %q, %d, want %d", p, b, f, want)
		}
	}
	for _, e := range []api.Errno{api.OK, api.ErrSchema, api.ErrPoint, api.ErrVector, api.ErrField} {
		if seen[e] < 500 {
			t.Errorf("%d points were answered by %d", seen[e], e)
		}
	}
}

func TestBrokenBytes(t *testing.T) { // 5.3
	seen := map[api.Errno]int{}
	for seed := range uint64(20000) {
		d := drawer{rand.New(rand.NewPCG(seed, 7))}
		s, _ := Encode(d.point(d.schema()))
		b := []byte(s)
		for range 1 + d.IntN(2) {
			at := d.IntN(len(b))
			if d.IntN(2) == 0 {
				at = min(at, d.IntN(30)) // the counts and names stand at the beginning
			}
			b[at] = []byte{0, 1, 2, 3, 16, 17, 64, 65, 'a', '_', 255, byte(d.IntN(256))}[d.IntN(12)]
		}
		seen[compareDecode(t, string(b))]++
		seen[compareDecode(t, string(b[:d.IntN(len(b))]))]++
	}
	if seen[api.OK] < 500 || seen[api.ErrBytes] < 500 {
		t.Errorf("answered: %v", seen)
	}
}

// rows answers all rows of just so many of the parts.
func rows(parts []string, count int) []string {
	l := []string{""}
	for range count {
		var next []string
		for _, s := range l {
			for _, part := range parts {
				next = append(next, s+part)
			}
		}
		l = next
	}
	return l
}

func TestAllShortBytes(t *testing.T) { // 5.3
	seen := map[api.Errno]int{}
	for _, s := range rows([]string{"\x00", "\x01", "\x02", "a", "\x01a", "\x01b"}, 6) {
		seen[compareDecode(t, one[:8]+s+"\x00")]++
	}
	for _, s := range rows([]string{"\x00", "\x01", "\x02", "\x03", "\x01a", "\x01b", "\xff"}, 6) {
		seen[compareDecode(t, one+s)]++
	}
	if seen[api.OK] < 100 || seen[api.ErrBytes] < 100 {
		t.Errorf("answered: %v", seen)
	}
}
