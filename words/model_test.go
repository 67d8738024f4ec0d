package words

import (
	"math/rand/v2"
	"slices"
	"strings"
	"testing"

	"lodestar/api"
)

// modelGet goes through the fields from the last one on, so that the first of that name stays.
func modelGet(l []api.Field, name string) (api.Value, bool) {
	v, ok := api.Value{}, false
	for i := len(l) - 1; i >= 0; i-- {
		if l[i].Name == name {
			v, ok = l[i].Value, true
		}
	}
	return v, ok
}

// modelLess tells whether a stands ahead of b, by the words of 5.2.
func modelLess(a, b api.Value) bool {
	if a.Kind != b.Kind {
		return a.Kind < b.Kind
	}
	if a.N != b.N {
		return a.N < b.N
	}
	return a.Text < b.Text
}

// laid are the numbers of l with n among them, where it rises.
func laid(l []int, n int) []int {
	at := 0
	for at < len(l) && l[at] < n {
		at++
	}
	return slices.Insert(l, at, n)
}

// modelFind goes through l: a point counts, if none behind it has its Id, and wanted takes its value.
func modelFind(l []api.Point, name string, wanted func(api.Value) bool) []int {
	var found []int
	for i, p := range l {
		last := true
		for _, q := range l[i+1:] {
			last = last && q.Id != p.Id
		}
		if v, ok := modelGet(p.Fields, name); ok && last && wanted(v) {
			found = laid(found, p.Id)
		}
	}
	return found
}

// modelValues are the values that points of l have, of which modelFind finds one.
func modelValues(l []api.Point, name string) []api.Value {
	var values []api.Value
	for _, p := range l {
		v, ok := modelGet(p.Fields, name)
		if !ok || len(modelFind(l, name, func(w api.Value) bool { return w == v })) == 0 {
			continue
		}
		at := 0
		for at < len(values) && modelLess(values[at], v) {
			at++
		}
		if at == len(values) || values[at] != v {
			values = slices.Insert(values, at, v)
		}
	}
	return values
}

// held wants x to be the index of l by that name, as the model says, asked for all that it has and for the values asked.
func held(t *testing.T, x *Index, l []api.Point, name string, asked []api.Value) {
	t.Helper()
	all := modelFind(l, name, func(api.Value) bool { return true })
	values := modelValues(l, name)
	if !slices.Equal(x.Any(), all) || x.Len() != len(all) || !slices.Equal(x.Values(), values) {
		t.Fatalf("of %v by %q: Any %v, Len %d, Values %v, want %v, %v", l, name, x.Any(), x.Len(), x.Values(), all, values)
	}
	for _, v := range slices.Concat(values, asked) {
		want := modelFind(l, name, func(w api.Value) bool { return w == v })
		if got := x.Find(v); !slices.Equal(got, want) {
			t.Fatalf("of %v by %q: Find(%v) = %v, want %v", l, name, v, got, want)
		}
	}
	wholeOf(t, x)
	if len(x.found) != len(values) { // no more is kept from call to call than is needed
		t.Fatalf("of %v by %q: %d values are kept of %d", l, name, len(x.found), len(values))
	}
}

// wholeOf wants the Finds of all Values to have nothing together, and to make up Any.
func wholeOf(t *testing.T, x *Index) {
	t.Helper()
	under := map[int]int{}
	for _, v := range x.Values() {
		l := x.Find(v)
		if len(l) == 0 {
			t.Fatalf("no id has %v", v)
		}
		for _, id := range l {
			under[id]++
		}
	}
	all := x.Any()
	if len(under) != len(all) || len(all) != x.Len() {
		t.Fatalf("Finds have %d ids, Any %d, Len %d", len(under), len(all), x.Len())
	}
	for _, id := range all {
		if under[id] != 1 {
			t.Fatalf("%d stands in %d Finds", id, under[id])
		}
	}
}

// copied is l in memory of its own.
func copied(l []api.Point) []api.Point {
	l = slices.Clone(l)
	for i, p := range l {
		l[i].Fields = slices.Clone(p.Fields)
		l[i].Vectors = slices.Clone(p.Vectors)
		for j, v := range p.Vectors {
			l[i].Vectors[j].V = slices.Clone(v.V)
		}
	}
	return l
}

// samePoint tells whether a and b are the same in all.
func samePoint(a, b api.Point) bool {
	sameVec := func(a, b api.Vec) bool { return a.Name == b.Name && slices.Equal(a.V, b.V) }
	return a.Id == b.Id && slices.Equal(a.Fields, b.Fields) && slices.EqualFunc(a.Vectors, b.Vectors, sameVec)
}

// rowsOf calls do with each row of up to most of the points.
func rowsOf(points []api.Point, most int, do func([]api.Point)) {
	var from func(row []api.Point)
	from = func(row []api.Point) {
		do(slices.Clone(row))
		if len(row) == most {
			return
		}
		for _, p := range points {
			from(append(row, p))
		}
	}
	from(nil)
}

func TestAllRows(t *testing.T) { // 14.1, 14.2: all rows of a few points, with one Id and out of order
	few := []api.Point{city(1, "a"), city(1, "b"), {Id: 1}, city(0, "a"), city(0, "b"), city(-1, "a"), {Id: -1, Fields: []api.Field{{Name: "town", Value: word("a")}}}}
	rowsOf(few, 5, func(l []api.Point) {
		held(t, Build(l, "city"), l, "city", []api.Value{word("a"), word("b"), word("c"), whole(0), {}})
	})
}

// drawnValue is a value of few kinds, numbers and texts, most of which may not be a field's.
func drawnValue(d *rand.Rand) api.Value {
	switch d.IntN(4) {
	case 0:
		return whole(d.IntN(5) - 2)
	case 1:
		return truth(d.IntN(2))
	case 2:
		return word([]string{"", "a", "ab", "b", "\xc3\xa4", "\xff"}[d.IntN(6)])
	}
	return api.Value{Kind: d.IntN(6) - 1, N: d.IntN(3) - 1, Text: strings.Repeat("a", d.IntN(3))}
}

// drawn are n points, whose Ids lie around 0, with fields of a few names, some of them twice in a point.
func drawn(d *rand.Rand, n, ids int) []api.Point {
	l := make([]api.Point, n)
	for i := range l {
		l[i].Id = d.IntN(ids) - ids/2
		for range d.IntN(4) {
			l[i].Fields = append(l[i].Fields, api.Field{Name: []string{"", "a", "b", "city"}[d.IntN(4)], Value: drawnValue(d)})
		}
	}
	return l
}

// drawnValues are some values.
func drawnValues(d *rand.Rand) []api.Value {
	l := make([]api.Value, 6)
	for i := range l {
		l[i] = drawnValue(d)
	}
	return l
}

func TestDrawn(t *testing.T) { // 14.1, 14.2
	for seed := range uint64(2000) {
		d := rand.New(rand.NewPCG(seed, 141))
		l := drawn(d, d.IntN(50), 1+d.IntN(1<<d.IntN(8)))
		for _, name := range []string{"city", "a", "", "none"} {
			held(t, Build(l, name), l, name, drawnValues(d))
		}
	}
}

func TestOrderOfUnlikeIdsPlaysNoPart(t *testing.T) { // 14.2
	for seed := range uint64(500) {
		d := rand.New(rand.NewPCG(seed, 142))
		var l []api.Point
		for i, id := range d.Perm(30) {
			l = append(l, having(id-15, drawnValue(d)))
			if i%4 == 0 {
				l[i].Fields = nil
			}
		}
		asked := drawnValues(d)
		for range 3 {
			held(t, Build(shuffled(d, l), "city"), l, "city", asked)
		}
	}
}

// mixed are the points of l, of which those of one Id keep their order, those of unlike Ids do not.
func mixed(d *rand.Rand, l []api.Point) []api.Point {
	of := map[int][]api.Point{}
	for _, p := range l {
		of[p.Id] = append(of[p.Id], p)
	}
	made := shuffled(d, l)
	for i, p := range made {
		made[i] = of[p.Id][0]
		of[p.Id] = of[p.Id][1:]
	}
	return made
}

func TestOrderWithinAnIdStays(t *testing.T) { // 14.2
	for seed := range uint64(500) {
		d := rand.New(rand.NewPCG(seed, 143))
		l := drawn(d, d.IntN(40), 10)
		asked := drawnValues(d)
		for range 3 {
			held(t, Build(mixed(d, l), "city"), l, "city", asked)
		}
	}
}

func TestAskingChangesNothing(t *testing.T) { // R5: nor does the order of a map
	d := rand.New(rand.NewPCG(5, 14))
	l := drawn(d, 60, 40)
	x, y := Build(l, "city"), Build(l, "city")
	all, values := x.Any(), x.Values()
	for range 200 {
		v := drawnValue(d)
		if !slices.Equal(x.Find(v), y.Find(v)) || !slices.Equal(x.Any(), all) || !slices.Equal(y.Any(), all) || !slices.Equal(x.Values(), values) || !slices.Equal(y.Values(), values) || x.Len() != y.Len() {
			t.Fatal("an answer is another than the first time")
		}
	}
	held(t, x, l, "city", drawnValues(d))
}
