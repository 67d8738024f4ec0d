package payload

import (
	"fmt"
	"math"
	"slices"
	"strings"
	"testing"

	"lodestar/api"
)

// The face of the chapter: each call with its exact signature.
var (
	_ func(api.Schema) api.Errno                  = CheckSchema
	_ func(api.Schema, api.Point) api.Errno       = Check
	_ func(api.Value, api.Value) int              = Compare
	_ func([]api.Field, string) (api.Value, bool) = Get
	_ func(api.Point) (string, api.Errno)         = Encode
	_ func(string) (api.Point, int, api.Errno)    = Decode
	_ func(api.Point, api.Point) bool             = Same
)

func whole(n int) api.Value   { return api.Value{Kind: api.KindInt, N: n} }
func word(s string) api.Value { return api.Value{Kind: api.KindWord, Text: s} }
func truth(n int) api.Value   { return api.Value{Kind: api.KindBool, N: n} }

func vec(name string, v ...int) api.Vec        { return api.Vec{Name: name, V: v} }
func field(name string, v api.Value) api.Field { return api.Field{Name: name, Value: v} }
func spec(name string, dim, metric int) api.VecSpec {
	return api.VecSpec{Name: name, Dim: dim, Metric: metric}
}
func fieldSpec(name string, kind int) api.FieldSpec { return api.FieldSpec{Name: name, Kind: kind} }

// schema is one with each metric and each kind.
func schema() api.Schema {
	return api.Schema{
		Vectors: []api.VecSpec{spec("c", 2, api.MetricCos), spec("d", 1, api.MetricDot), spec("v", 3, api.MetricL2)},
		Fields:  []api.FieldSpec{fieldSpec("city", api.KindWord), fieldSpec("open", api.KindBool), fieldSpec("size", api.KindInt)},
	}
}

// full is a point that has all of schema.
func full() api.Point {
	return api.Point{
		Id:      7,
		Vectors: []api.Vec{vec("c", 3, -4), vec("d", 0), vec("v", 1, 2, 3)},
		Fields:  []api.Field{field("city", word("Ulm")), field("open", truth(1)), field("size", whole(-5))},
	}
}

// names answers so many names that rise.
func names(count int) []string {
	var l []string
	for i := range count {
		l = append(l, fmt.Sprintf("n%02d", i))
	}
	return l
}

// vecs answers so many vectors, by names that rise.
func vecs(count int) []api.Vec {
	var l []api.Vec
	for _, name := range names(count) {
		l = append(l, vec(name, 1))
	}
	return l
}

// fields answers so many fields, by names that rise.
func fields(count int) []api.Field {
	var l []api.Field
	for i, name := range names(count) {
		l = append(l, field(name, whole(i)))
	}
	return l
}

// wide answers a schema of so many vectors and fields, by names that rise.
func wide(vectors, fields int) api.Schema {
	var s api.Schema
	for _, name := range names(vectors) {
		s.Vectors = append(s.Vectors, spec(name, 1, api.MetricL2))
	}
	for _, name := range names(fields) {
		s.Fields = append(s.Fields, fieldSpec(name, api.KindInt))
	}
	return s
}

// goodNames are names; badNames are none.
func goodNames() []string {
	l := []string{"_", "__", "a0", "Z9_", "_0", strings.Repeat("a", 31), strings.Repeat("Z", 32), "a" + strings.Repeat("0", 31)}
	for c := range 256 {
		if b := string([]byte{byte(c)}); strings.Contains("abcdefghijklmnopqrstuvwxyzABCDEFGHIJKLMNOPQRSTUVWXYZ_", b) {
			l = append(l, b, "a"+b, b+"a")
		}
	}
	for _, b := range strings.Split("0123456789", "") {
		l = append(l, "a"+b, "a"+b+"a")
	}
	return l
}

func badNames() []string {
	l := []string{"", strings.Repeat("a", 33), strings.Repeat("a", 256), strings.Repeat("a", 257), strings.Repeat("a", 70000), "0", "9a", "\u00e4", "a\u00e4", "a b", " a", "a ", "a-b", "a.b", "a\x00"}
	for c := range 256 {
		b := string([]byte{byte(c)})
		if strings.Contains("0123456789", b) {
			l = append(l, b, b+"a")
		} else if !slices.Contains(goodNames(), b) {
			l = append(l, b, "a"+b, b+"a", "a"+b+"a")
		}
	}
	return l
}

func TestCheckSchemaTakes(t *testing.T) { // 5.1
	l := []api.Schema{schema(), wide(1, 0), wide(4, 0), wide(4, 15), wide(4, 16), wide(1, 16)}
	for _, dim := range []int{1, 2, 63, 64} {
		for _, metric := range []int{api.MetricL2, api.MetricDot, api.MetricCos} {
			l = append(l, api.Schema{Vectors: []api.VecSpec{spec("v", dim, metric)}})
		}
	}
	for _, kind := range []int{api.KindInt, api.KindWord, api.KindBool} {
		// A field may be called as a vector is.
		l = append(l, api.Schema{Vectors: wide(1, 0).Vectors, Fields: []api.FieldSpec{fieldSpec("n00", kind)}})
	}
	// R3: no fields.
	l = append(l, api.Schema{Vectors: wide(1, 0).Vectors, Fields: []api.FieldSpec{}})
	for _, s := range l {
		if e := CheckSchema(s); e != api.OK {
			t.Errorf("CheckSchema(%v) = %d", s, e)
		}
	}
}

// badSchemas are such as may not be.
func badSchemas() []api.Schema {
	l := []api.Schema{{}, {Vectors: []api.VecSpec{}}, wide(0, 1), wide(5, 0), wide(5, 17), wide(1, 17), wide(100, 0), wide(1, 100)}
	for _, n := range []int{0, -1, 65, 66, math.MaxInt, math.MinInt} {
		s, later := wide(1, 0), wide(4, 0)
		s.Vectors[0].Dim, later.Vectors[3].Dim = n, n
		l = append(l, s, later)
	}
	for _, n := range []int{0, -1, 4, 5, math.MaxInt, math.MinInt} {
		s, later, kind, laterKind := wide(1, 0), wide(4, 0), wide(1, 1), wide(1, 16)
		s.Vectors[0].Metric, later.Vectors[3].Metric, kind.Fields[0].Kind, laterKind.Fields[15].Kind = n, n, n, n
		l = append(l, s, later, kind, laterKind)
	}
	return l
}

func TestCheckSchemaRefuses(t *testing.T) { // 5.1
	for _, s := range badSchemas() {
		if e := CheckSchema(s); e != api.ErrSchema {
			t.Errorf("CheckSchema(%v) = %d", s, e)
		}
		for _, p := range []api.Point{{}, full(), {Id: 1, Vectors: vecs(1)}} {
			if e := Check(s, p); e != api.ErrSchema {
				t.Errorf("Check(%v, %v) = %d", s, p, e)
			}
		}
	}
}

// called answers a schema and a point whose things have the names.
func called(names ...string) (api.Schema, api.Point) {
	s, p := api.Schema{}, api.Point{Id: 1}
	for _, name := range names {
		s.Vectors = append(s.Vectors, spec(name, 1, api.MetricL2))
		s.Fields = append(s.Fields, fieldSpec(name, api.KindInt))
		p.Vectors = append(p.Vectors, vec(name, 1))
		p.Fields = append(p.Fields, field(name, whole(1)))
	}
	return s, p
}

// judges wants of the names, wherever they stand, that they may be, or that they may not.
func judges(t *testing.T, may bool, names ...string) {
	t.Helper()
	s, p := called(names...)
	ofSchema, ofPoint, ofBytes := api.ErrSchema, api.ErrPoint, api.ErrPoint
	if may {
		ofSchema, ofPoint, ofBytes = api.OK, api.ErrVector, api.OK
	}
	for _, x := range []api.Schema{s, {Vectors: s.Vectors}, {Vectors: wide(1, 0).Vectors, Fields: s.Fields}} {
		if e := CheckSchema(x); e != ofSchema {
			t.Errorf("CheckSchema(%.200v) = %d", x, e)
		}
	}
	for _, x := range []api.Point{p, {Id: 1, Vectors: p.Vectors}, {Id: 1, Vectors: vecs(1), Fields: p.Fields}} {
		// The names may be, but the schema has not all of them.
		if e := Check(api.Schema{Vectors: []api.VecSpec{spec("no_such", 1, api.MetricL2)}}, x); e != ofPoint {
			t.Errorf("Check(.., %.200v) = %d", x, e)
		}
		if _, e := Encode(x); e != ofBytes {
			t.Errorf("Encode(%.200v): %d", x, e)
		}
	}
	if e := Check(s, p); may && e != api.OK {
		t.Errorf("Check(%.200q) = %d", names, e)
	}
}

func TestNames(t *testing.T) { // 5.1, 5.3: of vectors and fields, in schemas and points
	for _, name := range goodNames() {
		judges(t, true, name)
	}
	for _, name := range badNames() {
		judges(t, false, name)
		judges(t, false, "A", name)
	}
}

func TestNamesRise(t *testing.T) { // 5.1, 5.3: byte by byte
	for _, l := range []string{"a b", "A a", "Z _", "_ a", "A A0 AA A_", "a aa", "a9 aA", "B a", "Zz a", "a_ aa", "a b c d", "Z a aa b"} {
		judges(t, true, strings.Fields(l)...)
	}
	for _, l := range []string{"b a", "a a", "a A", "aa a", "_ Z", "a B", "aA a9", "a b b", "a c b", "b c a", "a b a", "a b c c", "a b d c"} {
		judges(t, false, strings.Fields(l)...)
	}
}

// spoiler spoils one thing, for which Check answers of.
type spoiler struct {
	of    api.Errno
	laid  bool // whether the point may be all the same
	spoil func(s *api.Schema, p *api.Point)
}

// schemaSpoilers spoil the schema.
func schemaSpoilers() []spoiler {
	return []spoiler{
		{api.ErrSchema, true, func(s *api.Schema, p *api.Point) { *s = api.Schema{} }},
		{api.ErrSchema, true, func(s *api.Schema, p *api.Point) { s.Vectors[1].Dim = 65 }},
		{api.ErrSchema, true, func(s *api.Schema, p *api.Point) { s.Vectors[2].Metric = 0 }},
		{api.ErrSchema, true, func(s *api.Schema, p *api.Point) { s.Fields[2].Kind = 4 }},
		{api.ErrSchema, true, func(s *api.Schema, p *api.Point) { slices.Reverse(s.Fields) }},
		{api.ErrSchema, true, func(s *api.Schema, p *api.Point) { s.Vectors[2].Name = "v " }},
	}
}

// pointSpoilers spoil the Id, how many there are, or the names.
func pointSpoilers() []spoiler {
	l := []spoiler{
		{api.ErrPoint, false, func(s *api.Schema, p *api.Point) { p.Vectors = nil }},
		{api.ErrPoint, false, func(s *api.Schema, p *api.Point) { p.Vectors = []api.Vec{} }},
		{api.ErrPoint, false, func(s *api.Schema, p *api.Point) { p.Vectors = vecs(5) }},
		{api.ErrPoint, false, func(s *api.Schema, p *api.Point) { p.Vectors = vecs(256) }},
		{api.ErrPoint, false, func(s *api.Schema, p *api.Point) { p.Fields = fields(17) }},
		{api.ErrPoint, false, func(s *api.Schema, p *api.Point) { p.Fields = fields(257) }},
		{api.ErrPoint, false, func(s *api.Schema, p *api.Point) { slices.Reverse(p.Vectors) }},
		{api.ErrPoint, false, func(s *api.Schema, p *api.Point) { slices.Reverse(p.Fields) }},
		{api.ErrPoint, false, func(s *api.Schema, p *api.Point) { p.Vectors[2].Name = "d" }},
		{api.ErrPoint, false, func(s *api.Schema, p *api.Point) { p.Fields[0].Name = "open" }},
		{api.ErrPoint, false, func(s *api.Schema, p *api.Point) { p.Vectors[0].Name = "" }},
		{api.ErrPoint, false, func(s *api.Schema, p *api.Point) { p.Fields[0].Name = "" }},
		{api.ErrPoint, false, func(s *api.Schema, p *api.Point) { p.Vectors[2].Name = "v-" }},
		{api.ErrPoint, false, func(s *api.Schema, p *api.Point) { p.Fields[2].Name = "s\u00efze" }},
	}
	for _, id := range []int{0, -1, math.MinInt, 1<<52 + 1, 1 << 53, math.MaxInt} {
		l = append(l, spoiler{api.ErrPoint, false, func(s *api.Schema, p *api.Point) { p.Id = id }})
	}
	return l
}

// vectorSpoilers spoil a vector.
func vectorSpoilers() []spoiler {
	l := []spoiler{
		{api.ErrVector, true, func(s *api.Schema, p *api.Point) { p.Vectors[0].Name = "a" }},
		{api.ErrVector, true, func(s *api.Schema, p *api.Point) { p.Vectors[2].Name = "w" }},
		{api.ErrVector, true, func(s *api.Schema, p *api.Point) { p.Vectors[2].Name = "vv" }},
		{api.ErrVector, true, func(s *api.Schema, p *api.Point) { p.Vectors[2].Name = "size" }}, // a field's
		{api.ErrVector, true, func(s *api.Schema, p *api.Point) { p.Vectors[0].Name = "C" }},
		{api.ErrVector, true, func(s *api.Schema, p *api.Point) { p.Vectors[2].V = []int{1, 2} }},
		{api.ErrVector, true, func(s *api.Schema, p *api.Point) { p.Vectors[2].V = []int{1, 2, 3, 4} }},
		{api.ErrVector, true, func(s *api.Schema, p *api.Point) { p.Vectors[2].V = make([]int, 64) }},
		{api.ErrVector, false, func(s *api.Schema, p *api.Point) { p.Vectors[2].V = make([]int, 65) }},
		{api.ErrVector, false, func(s *api.Schema, p *api.Point) { p.Vectors[1].V = make([]int, 257) }},
		{api.ErrVector, false, func(s *api.Schema, p *api.Point) { p.Vectors[1].V = nil }},
		{api.ErrVector, false, func(s *api.Schema, p *api.Point) { p.Vectors[0].V = []int{} }},
		{api.ErrVector, true, func(s *api.Schema, p *api.Point) { p.Vectors[0].V = []int{0, 0} }}, // MetricCos
	}
	for _, n := range []int{-32769, 32768, 40000, -65536, 65536, math.MaxInt, math.MinInt} {
		for i := range 3 {
			l = append(l, spoiler{api.ErrVector, false, func(s *api.Schema, p *api.Point) { p.Vectors[2].V[i] = n }})
		}
		l = append(l, spoiler{api.ErrVector, false, func(s *api.Schema, p *api.Point) { p.Vectors[1].V[0] = n }})
	}
	return l
}

// badValues are such as may not be.
func badValues() []api.Value {
	l := []api.Value{
		{}, {N: 1}, {Text: "a"}, {Kind: 4}, {Kind: -1}, {Kind: 256}, {Kind: 257}, {Kind: math.MaxInt}, {Kind: math.MinInt, N: 1},
		whole(1<<52 + 1), whole(-1<<52 - 1), whole(math.MaxInt), whole(math.MinInt), {Kind: api.KindInt, N: 1, Text: "a"}, {Kind: api.KindInt, Text: "\x00"},
		word(strings.Repeat("a", 257)), word(strings.Repeat("\u00fc", 128) + "a"), word(strings.Repeat("a", 65536)), {Kind: api.KindWord, N: 1, Text: "a"}, {Kind: api.KindWord, N: -1}, {Kind: api.KindWord, N: 1},
		truth(2), truth(-1), truth(256), truth(math.MaxInt), truth(math.MinInt), {Kind: api.KindBool, N: 1, Text: "a"}, {Kind: api.KindBool, Text: "0"},
	}
	for _, s := range []string{"\xff", "a\xc3", "\x80", "\xed\xa0\x80", "\xc0\x80", "\xf4\x90\x80\x80", "Ulm\xe2\x82", strings.Repeat("a", 255) + "\xc3"} {
		l = append(l, word(s))
	}
	return l
}

// goodValues are such as may be, no two the same.
func goodValues() []api.Value {
	l := []api.Value{whole(0), whole(1), whole(-1), whole(255), whole(-256), whole(1<<52 - 1), whole(1 << 52), whole(1 - 1<<52), whole(-1 << 52), truth(0), truth(1)}
	for _, s := range []string{"", "a", "A", "\x00", "Ulm", "0", "\u00fc", "u\u0308", "\ufffd", "\ufeff", "\U0010ffff", " a\r\n\"", strings.Repeat("a", 255), strings.Repeat("a", 256), strings.Repeat("\u00fc", 128), strings.Repeat("\U0001f600", 64)} {
		l = append(l, word(s))
	}
	return l
}

// fieldSpoilers spoil a field.
func fieldSpoilers() []spoiler {
	l := []spoiler{
		{api.ErrField, true, func(s *api.Schema, p *api.Point) { p.Fields[0].Name = "a" }},
		{api.ErrField, true, func(s *api.Schema, p *api.Point) { p.Fields[2].Name = "v" }}, // a vector's
		{api.ErrField, true, func(s *api.Schema, p *api.Point) { p.Fields[2].Name = "sizes" }},
		{api.ErrField, true, func(s *api.Schema, p *api.Point) { p.Fields[0].Name = "City" }},
		{api.ErrField, true, func(s *api.Schema, p *api.Point) { p.Fields[0].Value = truth(1) }},
		{api.ErrField, true, func(s *api.Schema, p *api.Point) { p.Fields[0].Value = whole(1) }},
		{api.ErrField, true, func(s *api.Schema, p *api.Point) { p.Fields[1].Value = whole(1) }},
		{api.ErrField, true, func(s *api.Schema, p *api.Point) { p.Fields[1].Value = word("true") }},
		{api.ErrField, true, func(s *api.Schema, p *api.Point) { p.Fields[2].Value = truth(0) }},
		{api.ErrField, true, func(s *api.Schema, p *api.Point) { p.Fields[2].Value = word("5") }},
	}
	for _, v := range badValues() {
		for i := range 3 {
			l = append(l, spoiler{api.ErrField, false, func(s *api.Schema, p *api.Point) { p.Fields[i].Value = v }})
		}
	}
	return l
}

func TestCheckRefuses(t *testing.T) { // 5.1, 5.3
	for _, l := range [][]spoiler{schemaSpoilers(), pointSpoilers(), vectorSpoilers(), fieldSpoilers()} {
		for i, x := range l {
			s, p := schema(), full()
			x.spoil(&s, &p)
			if e := Check(s, p); e != x.of {
				t.Errorf("%d: Check(%v, %.300v) = %d, want %d", i, s, p, e, x.of)
			}
			b, e := Encode(p)
			if (e == api.OK) != x.laid || e != api.OK && (e != api.ErrPoint || b != "") {
				t.Errorf("%d: Encode(%.300v) = %q, %d", i, p, b, e)
			}
		}
	}
}

func TestCheckAnswersTheFirstError(t *testing.T) { // 5.1, R2
	rows := [][]spoiler{schemaSpoilers(), pointSpoilers(), vectorSpoilers(), fieldSpoilers()}
	for i, firsts := range rows {
		for _, seconds := range rows[i+1:] {
			for _, first := range firsts {
				for _, second := range seconds {
					s, p := schema(), full()
					second.spoil(&s, &p)
					first.spoil(&s, &p)
					if e := Check(s, p); e != first.of {
						t.Fatalf("Check(%v, %.300v) = %d, want %d", s, p, e, first.of)
					}
				}
			}
		}
	}
}

func TestCheckTakesParts(t *testing.T) { // 5.1: of what the schema has, a point has some
	p := full()
	for some := range 64 {
		part := api.Point{Id: 1}
		for i := range 3 {
			if some>>i&1 == 1 {
				part.Vectors = append(part.Vectors, p.Vectors[i])
			}
			if some>>(3+i)&1 == 1 {
				part.Fields = append(part.Fields, p.Fields[i])
			}
		}
		want := api.OK
		if len(part.Vectors) == 0 {
			want = api.ErrPoint
		}
		if e := Check(schema(), part); e != want {
			t.Errorf("Check(.., %v) = %d, want %d", part, e, want)
		}
		if _, e := Encode(part); e != want {
			t.Errorf("Encode(%v): %d, want %d", part, e, want)
		}
	}
	if e := Check(wide(4, 16), api.Point{Id: 1, Vectors: vecs(4), Fields: fields(16)}); e != api.OK {
		t.Errorf("Check of a full point: %d", e)
	}
}

func TestCheckTakesEdges(t *testing.T) { // 5.1
	for _, id := range []int{1, 2, 1<<52 - 1, 1 << 52} {
		p := full()
		p.Id = id
		if e := Check(schema(), p); e != api.OK {
			t.Errorf("Check of Id %d: %d", id, e)
		}
	}
	for _, v := range [][]int{{-32768, -32768, -32768}, {32767, 32767, 32767}, {0, 0, 0}, {0, 0, 1}} {
		p := full()
		p.Vectors[2].V = v
		if e := Check(schema(), p); e != api.OK {
			t.Errorf("Check of %v: %d", v, e)
		}
	}
	for _, v := range [][]int{{0, 1}, {1, 0}, {-1, 0}, {0, -32768}, {1, -1}, {32767, 0}} { // MetricCos: not all are 0
		p := full()
		p.Vectors[0].V = v
		if e := Check(schema(), p); e != api.OK {
			t.Errorf("Check of %v: %d", v, e)
		}
	}
	for _, v := range goodValues() {
		p := api.Point{Id: 1, Vectors: vecs(1), Fields: []api.Field{field("f", v)}}
		for kind := api.KindInt; kind <= api.KindBool; kind++ {
			want := api.OK
			if kind != v.Kind {
				want = api.ErrField
			}
			s := api.Schema{Vectors: wide(1, 0).Vectors, Fields: []api.FieldSpec{fieldSpec("f", kind)}}
			if e := Check(s, p); e != want {
				t.Errorf("Check of %.50v under kind %d: %d, want %d", v, kind, e, want)
			}
		}
	}
}

func TestCheckOfDims(t *testing.T) { // 5.1
	for dim := 1; dim <= 64; dim++ {
		s := api.Schema{Vectors: []api.VecSpec{spec("v", dim, api.MetricDot)}}
		for size := range 70 {
			want := api.ErrVector
			if size == dim {
				want = api.OK
			}
			if e := Check(s, api.Point{Id: 1, Vectors: []api.Vec{vec("v", make([]int, size)...)}}); e != want {
				t.Errorf("Check of %d components, where Dim is %d: %d", size, dim, e)
			}
		}
	}
}

func TestCheckOfGreatThings(t *testing.T) { // R1
	many := make([]api.Vec, 1<<20)
	p := api.Point{Id: 1, Vectors: many, Fields: make([]api.Field, 1<<20)}
	if e := Check(schema(), p); e != api.ErrPoint {
		t.Errorf("Check: %d", e)
	}
	if e := CheckSchema(api.Schema{Vectors: make([]api.VecSpec, 1<<20), Fields: make([]api.FieldSpec, 1<<20)}); e != api.ErrSchema {
		t.Errorf("CheckSchema: %d", e)
	}
	if e := Check(schema(), api.Point{Id: 1, Vectors: []api.Vec{vec("v", make([]int, 1<<24)...)}}); e != api.ErrVector {
		t.Errorf("Check: %d", e)
	}
}
