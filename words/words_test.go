package words

import (
	"math"
	"math/rand/v2"
	"slices"
	"strings"
	"testing"
	"unsafe"

	"lodestar/api"
)

// The face of the chapter: each call with its exact signature.
var (
	_ func([]api.Point, string) *Index = Build
	_ func(*Index, api.Value) []int    = (*Index).Find
	_ func(*Index) []int               = (*Index).Any
	_ func(*Index) []api.Value         = (*Index).Values
	_ func(*Index) int                 = (*Index).Len
)

// word, whole and truth are values of the three kinds.
func word(s string) api.Value { return api.Value{Kind: api.KindWord, Text: s} }
func whole(n int) api.Value   { return api.Value{Kind: api.KindInt, N: n} }
func truth(n int) api.Value   { return api.Value{Kind: api.KindBool, N: n} }

// having is a point that has v under city.
func having(id int, v api.Value) api.Point {
	return api.Point{Id: id, Fields: []api.Field{{Name: "city", Value: v}}}
}

// city is a point that has a word under city.
func city(id int, s string) api.Point { return having(id, word(s)) }

// example are the points of the chapter's example.
func example() []api.Point {
	return []api.Point{city(1, "Ulm"), city(2, "Bonn"), {Id: 3}, city(4, "Ulm")}
}

// cities are the values that example has, and some that it has not.
func cities() []api.Value {
	return []api.Value{word("Bonn"), word("Ulm"), word("Rome"), word(""), {}}
}

// numbers are some, those at the ends of an int among them.
func numbers() []int {
	return []int{math.MinInt, math.MinInt + 1, -api.MaxId - 1, -2, -1, 0, 1, 2, 1 << 32, api.MaxId, api.MaxId + 1, math.MaxInt - 1, math.MaxInt}
}

// shuffled is l in another order.
func shuffled[T any](d *rand.Rand, l []T) []T {
	l = slices.Clone(l)
	d.Shuffle(len(l), func(i, j int) { l[i], l[j] = l[j], l[i] })
	return l
}

// spoil writes over all of l, and over the room behind its end.
func spoil[T any](l []T, with T) {
	l = l[:cap(l)]
	for i := range l {
		l[i] = with
	}
}

func TestExample(t *testing.T) { // 14.1: the chapter's example
	l := example()
	x := Build(l, "city")
	if got := x.Find(word("Ulm")); !slices.Equal(got, []int{1, 4}) {
		t.Errorf("Find(Ulm) = %v", got)
	}
	if got := x.Any(); !slices.Equal(got, []int{1, 2, 4}) {
		t.Errorf("Any = %v", got)
	}
	if got := x.Values(); !slices.Equal(got, []api.Value{word("Bonn"), word("Ulm")}) {
		t.Errorf("Values = %v", got)
	}
	if x.Len() != 3 {
		t.Errorf("Len = %d", x.Len())
	}
	if got := x.Find(word("Rome")); len(got) != 0 {
		t.Errorf("Find(Rome) = %v", got)
	}
	if got := Build(append(l, api.Point{Id: 1}), "city").Find(word("Ulm")); !slices.Equal(got, []int{4}) {
		t.Errorf("Find(Ulm) behind 1 without a city = %v", got)
	}
}

func TestLastOfAnIdCounts(t *testing.T) { // 14.1: whether it has one or not
	ulm, bonn := city(7, "Ulm"), city(7, "Bonn")
	none, other := api.Point{Id: 7}, api.Point{Id: 7, Fields: []api.Field{{Name: "size", Value: word("Ulm")}}}
	for i, x := range []struct {
		l    []api.Point
		want []api.Value // of 7
	}{
		{[]api.Point{ulm, bonn}, []api.Value{word("Bonn")}},
		{[]api.Point{bonn, ulm}, []api.Value{word("Ulm")}},
		{[]api.Point{ulm, none}, nil},
		{[]api.Point{none, ulm}, []api.Value{word("Ulm")}},
		{[]api.Point{ulm, other}, nil},
		{[]api.Point{other, ulm}, []api.Value{word("Ulm")}},
		{[]api.Point{ulm, ulm}, []api.Value{word("Ulm")}},
		{[]api.Point{none, none}, nil},
		{[]api.Point{ulm, none, bonn}, []api.Value{word("Bonn")}},
		{[]api.Point{ulm, bonn, none}, nil},
		{[]api.Point{ulm, bonn, ulm}, []api.Value{word("Ulm")}},
		{[]api.Point{none, ulm, none}, nil},
	} {
		for _, beside := range [][]api.Point{nil, {city(6, "Ulm")}, {city(8, "Ulm")}, {city(6, "Bonn"), city(8, "Ulm")}} {
			for at := range len(x.l) + 1 { // what is of other Ids stands ahead, between and behind
				l := slices.Insert(slices.Clone(x.l), at, beside...)
				index := Build(l, "city")
				for _, v := range cities() {
					if has := slices.Contains(index.Find(v), 7); has != slices.Contains(x.want, v) {
						t.Errorf("%d: Find(%v) of %v has 7: %v", i, v, l, has)
					}
				}
				held(t, index, l, "city", cities())
			}
		}
	}
}

func TestNames(t *testing.T) { // 14.1: the first field of just that name counts, as payload.Get has it; any name may be asked
	l := []api.Point{
		{Id: 1, Fields: []api.Field{{Name: "a", Value: word("x")}, {Name: "b", Value: word("y")}}},
		{Id: 2, Fields: []api.Field{{Name: "b", Value: word("x")}, {Name: "a", Value: word("y")}, {Name: "b", Value: word("z")}}},
		{Id: 3, Fields: []api.Field{{Name: "A", Value: word("x")}, {Name: "", Value: word("y")}}},
		{Id: 4, Fields: []api.Field{{Name: "\xff", Value: word("x")}, {Name: "", Value: word("")}}},
		{Id: 5, Vectors: []api.Vec{{Name: "a", V: []int{1}}}},
	}
	for _, x := range []struct {
		name    string
		any     []int
		x, y, z []int
	}{
		{"a", []int{1, 2}, []int{1}, []int{2}, nil},
		{"b", []int{1, 2}, []int{2}, []int{1}, nil},
		{"A", []int{3}, []int{3}, nil, nil},
		{"", []int{3, 4}, nil, []int{3}, nil},
		{"\xff", []int{4}, []int{4}, nil, nil},
		{"c", nil, nil, nil, nil},
		{"ab", nil, nil, nil, nil},
		{"x", nil, nil, nil, nil},
	} {
		i := Build(l, x.name)
		if !slices.Equal(i.Any(), x.any) || i.Len() != len(x.any) {
			t.Errorf("of %q: Any %v, Len %d", x.name, i.Any(), i.Len())
		}
		for text, want := range map[string][]int{"x": x.x, "y": x.y, "z": x.z} {
			if got := i.Find(word(text)); !slices.Equal(got, want) {
				t.Errorf("of %q: Find(%s) = %v", x.name, text, got)
			}
		}
		held(t, i, l, x.name, []api.Value{word("x"), word("y"), word("z"), word(""), {}})
	}
}

// unlike are values of which no two are the same, rising by payload.Compare; most may not be a field's.
func unlike() []api.Value {
	var l []api.Value
	for _, kind := range []int{math.MinInt, -1, 0, api.KindInt, api.KindWord, api.KindBool, 4, math.MaxInt} {
		for _, n := range numbers() {
			for _, text := range []string{"", "\x00", "A", "Ulm", "Ulm\x00", "Ulma", "a", "\x80", "\u00e4", "\xff"} {
				l = append(l, api.Value{Kind: kind, N: n, Text: text})
			}
		}
	}
	return l
}

func TestAnyValues(t *testing.T) { // 14.1: values may be any; just the same are found: no Kind, N or Text of another
	values := unlike()
	var l []api.Point
	for i, v := range values {
		l = append(l, having(i, v), having(-i-1, v))
	}
	x := Build(shuffled(rand.New(rand.NewPCG(1, 14)), l), "city")
	if got := x.Values(); !slices.Equal(got, values) {
		t.Errorf("Values are %d, others or in another order", len(got))
	}
	if x.Len() != len(l) || len(x.Any()) != len(l) {
		t.Errorf("Len %d, Any %d of %d", x.Len(), len(x.Any()), len(l))
	}
	for i, v := range values {
		if got := x.Find(v); !slices.Equal(got, []int{-i - 1, i}) {
			t.Errorf("Find(%v) = %v", v, got)
		}
	}
	for i, v := range values { // and none of the others in an index of one
		x := Build([]api.Point{having(i, v)}, "city")
		for _, w := range values {
			if got := x.Find(w); v == w && !slices.Equal(got, []int{i}) || v != w && len(got) != 0 {
				t.Fatalf("in an index of %v Find(%v) = %v", v, w, got)
			}
		}
	}
}

func TestKindsApart(t *testing.T) { // 14.1: by Kind, then N, then Text
	l := []api.Point{having(1, truth(1)), having(2, whole(1)), having(3, truth(0)), having(4, word("1")), having(5, whole(0)), having(6, word("")), having(7, api.Value{}), having(8, whole(-3))}
	x := Build(l, "city")
	want := []api.Value{{}, whole(-3), whole(0), whole(1), word(""), word("1"), truth(0), truth(1)}
	if got := x.Values(); !slices.Equal(got, want) {
		t.Errorf("Values = %v", got)
	}
	for i, id := range []int{7, 8, 5, 2, 6, 4, 3, 1} {
		if got := x.Find(want[i]); !slices.Equal(got, []int{id}) {
			t.Errorf("Find(%v) = %v", want[i], got)
		}
	}
}

func TestAnyIds(t *testing.T) { // 14.1: an Id may be any number; all lists rise
	d := rand.New(rand.NewPCG(2, 14))
	for range 50 {
		var l []api.Point
		for _, id := range numbers() {
			l = append(l, city(id, "Ulm"))
		}
		x := Build(shuffled(d, l), "city")
		if !slices.Equal(x.Find(word("Ulm")), numbers()) || !slices.Equal(x.Any(), numbers()) || x.Len() != len(l) {
			t.Fatalf("Find %v, Any %v, Len %d", x.Find(word("Ulm")), x.Any(), x.Len())
		}
		var low, high []int
		for i, id := range numbers() {
			if i%3 == 0 {
				low = append(low, id)
				l[i] = city(id, "Aachen")
			} else {
				high = append(high, id)
			}
		}
		x = Build(shuffled(d, l), "city")
		if !slices.Equal(x.Find(word("Aachen")), low) || !slices.Equal(x.Find(word("Ulm")), high) || !slices.Equal(x.Any(), numbers()) {
			t.Fatalf("Find %v and %v, Any %v", x.Find(word("Aachen")), x.Find(word("Ulm")), x.Any())
		}
	}
}

func TestOfNothing(t *testing.T) { // 14.1, R1, R2, R3: an index of nothing, and a nil one
	if Build(nil, "city") == nil || Build([]api.Point{}, "") == nil {
		t.Error("Build of nothing is nil")
	}
	for i, x := range []*Index{Build(nil, "city"), Build([]api.Point{}, ""), Build([]api.Point{{}}, "city"), Build([]api.Point{{}}, ""), Build(example(), "town"), nil, {}} {
		if x.Len() != 0 || len(x.Any()) != 0 || len(x.Values()) != 0 {
			t.Errorf("%d: Len %d, Any %v, Values %v", i, x.Len(), x.Any(), x.Values())
		}
		for _, v := range unlike() {
			if len(x.Find(v)) != 0 {
				t.Errorf("%d: Find(%v) = %v", i, v, x.Find(v))
			}
		}
	}
}

func TestOfNoughts(t *testing.T) { // 14.1: the Id, name and value of noughts are ones as others are
	l := []api.Point{{Fields: []api.Field{{}}}}
	x := Build(l, "")
	if !slices.Equal(x.Find(api.Value{}), []int{0}) || !slices.Equal(x.Any(), []int{0}) || !slices.Equal(x.Values(), []api.Value{{}}) || x.Len() != 1 {
		t.Errorf("Find %v, Any %v, Values %v, Len %d", x.Find(api.Value{}), x.Any(), x.Values(), x.Len())
	}
	held(t, Build(append(l, api.Point{}), ""), nil, "", []api.Value{{}})
}

func TestBuildKeepsToItsOwn(t *testing.T) { // R4: what is handed in stays, also behind its end, and is not kept
	behind := api.Field{Name: "city", Value: word("Rome")}
	for _, ids := range [][]int{{1, 2, 3, 4, 1, 9}, {4, 3, 2, 1, 0, -1}, {2, 1, 2, 1, 2, 1}, {1, 1, 1, 1, 1, 1}} {
		room := append(example(), city(0, "Rome"), city(0, "Rome"))
		for i := range room {
			room[i].Id = ids[i]
			room[i].Fields = append(room[i].Fields, behind)[:len(room[i].Fields)]
			room[i].Vectors = []api.Vec{{Name: "v", V: []int{1, 2, 3}}}
		}
		before := copied(room)
		x := Build(room[:4], "city")
		if !slices.EqualFunc(room, before, samePoint) {
			t.Fatalf("Build changed %v to %v", before, room)
		}
		for _, p := range room {
			if n := len(p.Fields); p.Fields[:n+1][n] != behind {
				t.Fatalf("Build changed what is behind the fields of %v", p)
			}
			spoil(p.Fields, behind)
			spoil(p.Vectors[0].V, -77)
			spoil(p.Vectors, api.Vec{})
		}
		spoil(room, city(77, "Rome"))
		held(t, x, before[:4], "city", cities())
	}
}

func TestBuildKeepsNoText(t *testing.T) { // R4: nor what a text is a piece of
	great := strings.Repeat("Ulm", 1000)
	x := Build([]api.Point{city(1, great[:3]), city(2, great[3:6]), city(3, great[6:9])}, "city")
	from := uintptr(unsafe.Pointer(unsafe.StringData(great)))
	for v := range x.found {
		if at := uintptr(unsafe.Pointer(unsafe.StringData(v.Text))); from <= at && at < from+uintptr(len(great)) {
			t.Errorf("%s is a piece of what was handed in", v.Text)
		}
	}
	if got := x.Find(word("Ulm")); !slices.Equal(got, []int{1, 2, 3}) || len(x.Values()) != 1 {
		t.Errorf("Find = %v, Values %v", got, x.Values())
	}
}

func TestAnswersAreNew(t *testing.T) { // R4, R5: each answer is memory of its own
	x := Build(example(), "city")
	for range 2 {
		for _, v := range cities() {
			l, again := x.Find(v), x.Find(v)
			want := slices.Clone(again)
			spoil(l, -77)
			if !slices.Equal(again, want) {
				t.Errorf("two answers of Find(%v) share memory", v)
			}
			held(t, x, example(), "city", cities())
		}
		l, again := x.Any(), x.Any()
		spoil(l, -77)
		if !slices.Equal(again, []int{1, 2, 4}) {
			t.Error("two answers of Any share memory")
		}
		held(t, x, example(), "city", cities())
		values, same := x.Values(), x.Values()
		spoil(values, word("Rome"))
		if !slices.Equal(same, []api.Value{word("Bonn"), word("Ulm")}) {
			t.Error("two answers of Values share memory")
		}
		held(t, x, example(), "city", cities())
	}
}

func TestOneValueAlone(t *testing.T) { // R4: Find and Any share nothing where there is one value alone
	l := []api.Point{city(1, "Ulm"), city(2, "Ulm")}
	x := Build(l, "city")
	found, all := x.Find(word("Ulm")), x.Any()
	spoil(found, -77)
	if !slices.Equal(all, []int{1, 2}) {
		t.Error("Any shares memory with Find")
	}
	spoil(all, -78)
	held(t, x, l, "city", cities())
}

func TestIndexesApart(t *testing.T) { // R5: what one index has is nothing to another
	l := example()
	x, y, z := Build(l, "city"), Build(l[1:], "city"), Build([]api.Point{city(1, "Rome")}, "city")
	none := Build(l, "town")
	held(t, y, l[1:], "city", cities())
	held(t, x, l, "city", cities())
	held(t, z, []api.Point{city(1, "Rome")}, "city", cities())
	held(t, none, nil, "town", cities())
}

func TestMany(t *testing.T) { // 14.1: a great index, of few values and of many
	const n = 200000
	d := rand.New(rand.NewPCG(3, 14))
	for _, kinds := range []int{1, 7, n} {
		l := make([]api.Point, 0, n)
		for i := range n {
			l = append(l, having(i, whole(i%kinds)))
		}
		x := Build(shuffled(d, l), "city")
		all := x.Any()
		if x.Len() != n || len(all) != n || all[0] != 0 || all[n-1] != n-1 || !slices.IsSorted(all) {
			t.Fatalf("of %d values: Len %d, Any %d", kinds, x.Len(), len(all))
		}
		values := x.Values()
		for i, v := range values {
			if v != whole(i) {
				t.Fatalf("value %d is %v", i, v)
			}
			found := x.Find(v)
			if len(found) != (n-i+kinds-1)/kinds || found[0] != i || !slices.IsSorted(found) {
				t.Fatalf("of %d values: Find(%v) are %d", kinds, v, len(found))
			}
		}
		if len(values) != kinds || len(x.Find(whole(kinds))) != 0 || len(x.Find(whole(-1))) != 0 {
			t.Fatalf("Values are %d", len(values))
		}
	}
}
