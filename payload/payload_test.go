package payload

import (
	"cmp"
	"math"
	"slices"
	"strings"
	"testing"

	"lodestar/api"
)

// ranked are values, each less than the next, such as may not be among them.
func ranked() []api.Value {
	return []api.Value{
		{Kind: math.MinInt, N: 9, Text: "z"}, {Kind: -1, N: math.MaxInt, Text: "z"}, {Kind: 0, N: -1}, {}, {Text: "\x00"}, {N: 1},
		whole(math.MinInt), whole(-1 << 52), whole(-2), {Kind: api.KindInt, N: -2, Text: "a"}, whole(-1), whole(0), whole(1), whole(2), whole(10), whole(math.MaxInt),
		{Kind: api.KindWord, N: -1, Text: "z"}, word(""), word("\x00"), word("\x00\x00"), word(" "), word("10"), word("2"), word("A"), word("B"), word("Z"), word("_"), word("a"), word("a\x00"), word("aa"), word("ab"), word("b"), word("ba"), word("\x7f"),
		word("\u00fc"), word("\uffff"), word("\U0001f600"), word("\xfe"), word("\xff"), word("\xff\x00"), word(strings.Repeat("\xff", 300)), {Kind: api.KindWord, N: 1}, {Kind: api.KindWord, N: math.MaxInt},
		truth(math.MinInt), truth(0), {Kind: api.KindBool, Text: "a"}, truth(1), truth(2), {Kind: 4}, {Kind: math.MaxInt, N: math.MinInt}, {Kind: math.MaxInt, N: math.MaxInt},
	}
}

func TestCompare(t *testing.T) { // 5.2, 5.4: an order
	for i, a := range ranked() {
		for k, b := range ranked() {
			if got := Compare(a, b); got != cmp.Compare(i, k) {
				t.Errorf("Compare(%.40v, %.40v) = %d", a, b, got)
			}
		}
	}
}

func TestCompareGoesByBytes(t *testing.T) { // 5.2: not by runes: U+FFFF is 3 bytes, the least 239; as UTF-16 it were greater than U+10000
	a, b := word("\uffff"), word("\U00010000")
	if Compare(a, b) != -1 || Compare(b, a) != 1 {
		t.Error("U+FFFF is not less than U+10000")
	}
	if Compare(word("\u00e9"), word("e\u0301")) != 1 {
		t.Error("runes that look alike are held against each other as such")
	}
}

func TestGet(t *testing.T) { // 5.2
	l := []api.Field{field("b", whole(1)), field("a", word("x")), field("", truth(1)), field("b", whole(2)), field("\xff", api.Value{Kind: 9, N: 9, Text: "9"}), field("zero", api.Value{}), field("zero", whole(5))}
	for _, x := range []struct {
		l    []api.Field
		name string
		want api.Value
		ok   bool
	}{
		{full().Fields, "city", word("Ulm"), true}, {full().Fields, "open", truth(1), true}, {full().Fields, "size", whole(-5), true},
		{full().Fields, "c", api.Value{}, false}, {full().Fields, "Size", api.Value{}, false}, {full().Fields, "", api.Value{}, false}, {full().Fields, "sizes", api.Value{}, false}, {full().Fields, "siz", api.Value{}, false},
		// Of what may not be, too: in whatever order, the first of those of one name.
		{l, "a", word("x"), true}, {l, "b", whole(1), true}, {l, "", truth(1), true}, {l, "\xff", api.Value{Kind: 9, N: 9, Text: "9"}, true}, {l, "zero", api.Value{}, true}, {l, "\xfe", api.Value{}, false},
		{l[3:], "b", whole(2), true}, {l[:0], "b", api.Value{}, false}, {nil, "b", api.Value{}, false}, {nil, "", api.Value{}, false}, {[]api.Field{}, "", api.Value{}, false},
	} {
		if v, ok := Get(x.l, x.name); v != x.want || ok != x.ok {
			t.Errorf("Get(%v, %q) = %v, %v, want %v, %v", x.l, x.name, v, ok, x.want, x.ok)
		}
	}
}

// points are such as may be, and such as may not, no two the same.
func points() []api.Point {
	v := []api.Vec{vec("v", 1, 2)}
	l := []api.Point{
		{}, {Id: 1}, {Id: -1}, full(),
		{Id: 1, Vectors: v}, {Id: 2, Vectors: v}, {Id: math.MaxInt, Vectors: v},
		{Id: 1, Vectors: []api.Vec{vec("v", 1, 3)}}, {Id: 1, Vectors: []api.Vec{vec("v", 2, 1)}}, {Id: 1, Vectors: []api.Vec{vec("v", 1)}}, {Id: 1, Vectors: []api.Vec{vec("v", 1, 2, 0)}}, {Id: 1, Vectors: []api.Vec{vec("v")}},
		{Id: 1, Vectors: []api.Vec{vec("w", 1, 2)}}, {Id: 1, Vectors: []api.Vec{vec("", 1, 2)}}, {Id: 1, Vectors: []api.Vec{v[0], v[0]}},
		{Id: 1, Vectors: []api.Vec{vec("v", 1, 2), vec("w", 3)}}, {Id: 1, Vectors: []api.Vec{vec("w", 3), vec("v", 1, 2)}}, {Id: 1, Vectors: []api.Vec{vec("v", 3), vec("w", 1, 2)}},
		{Id: 1, Vectors: v, Fields: []api.Field{field("a", whole(1)), field("b", whole(2))}}, {Id: 1, Vectors: v, Fields: []api.Field{field("b", whole(2)), field("a", whole(1))}},
		{Id: 1, Fields: []api.Field{field("a", whole(1))}},
	}
	for _, x := range append(append(goodValues(), badValues()...), word("\xfe")) {
		l = append(l, api.Point{Id: 1, Vectors: v, Fields: []api.Field{field("f", x)}})
	}
	return append(l, api.Point{Id: 1, Vectors: v, Fields: []api.Field{field("g", whole(1))}})
}

func TestSame(t *testing.T) { // 5.3: of what may not be, too
	for i, a := range points() {
		for k, b := range points() {
			if Same(a, b) != (i == k) {
				t.Errorf("Same(%.90v, %.90v) = %v", a, b, i != k)
			}
		}
	}
}

func TestSameOfEmptyLists(t *testing.T) { // 5.3, R3
	a := api.Point{Id: 1, Vectors: []api.Vec{{Name: "v"}}}
	b := api.Point{Id: 1, Vectors: []api.Vec{{Name: "v", V: []int{}}}, Fields: []api.Field{}}
	if !Same(a, b) || !Same(b, a) || !Same(api.Point{}, api.Point{Vectors: []api.Vec{}, Fields: []api.Field{}}) {
		t.Error("an empty list is another one than nil")
	}
}

// padded is p in other memory, with things behind its lists' ends.
func padded(p api.Point) api.Point {
	p.Vectors = append(slices.Clone(p.Vectors), vec("behind", 9), vec("behind", 9))[:len(p.Vectors)]
	for i, v := range p.Vectors {
		p.Vectors[i].V = append(slices.Clone(v.V), 99, 98)[:len(v.V)]
	}
	p.Fields = append(slices.Clone(p.Fields), field("behind", whole(9)), field("behind", whole(8)))[:len(p.Fields)]
	return p
}

// frozen is p in other memory, with all that lies behind its lists' ends laid into them.
func frozen(p api.Point) api.Point {
	p.Vectors = slices.Clone(p.Vectors[:cap(p.Vectors)])
	for i, v := range p.Vectors {
		p.Vectors[i].V = slices.Clone(v.V[:cap(v.V)])
	}
	p.Fields = slices.Clone(p.Fields[:cap(p.Fields)])
	return p
}

// spoil lays another thing everywhere in the lists of p, behind their ends, too.
func spoil(p api.Point) {
	for _, v := range p.Vectors {
		for i := range v.V[:cap(v.V)] {
			v.V[:cap(v.V)][i] = 77
		}
	}
	for i := range p.Vectors[:cap(p.Vectors)] {
		p.Vectors[:cap(p.Vectors)][i] = vec("spoilt", 7)
	}
	for i := range p.Fields[:cap(p.Fields)] {
		p.Fields[:cap(p.Fields)][i] = field("spoilt", whole(7))
	}
}

func TestNothingIsChanged(t *testing.T) { // R4: what is handed in, also behind the lists' ends
	for _, p := range points() {
		p = padded(p)
		before := frozen(p)
		Check(schema(), p)
		Same(p, p)
		Encode(p)
		Get(p.Fields, "f")
		if !Same(before, frozen(p)) {
			t.Errorf("%v was changed", p)
		}
	}
	for _, s := range append(badSchemas(), schema()) {
		s.Vectors = append(slices.Clone(s.Vectors), spec("behind", 9, 9))[:len(s.Vectors)]
		s.Fields = append(slices.Clone(s.Fields), fieldSpec("behind", 9))[:len(s.Fields)]
		vectors, fields := slices.Clone(s.Vectors[:cap(s.Vectors)]), slices.Clone(s.Fields[:cap(s.Fields)])
		CheckSchema(s)
		Check(s, full())
		if !slices.Equal(vectors, s.Vectors[:cap(s.Vectors)]) || !slices.Equal(fields, s.Fields[:cap(s.Fields)]) {
			t.Errorf("%v was changed", s)
		}
	}
}
