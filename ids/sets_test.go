package ids

import (
	"iter"
	"math"
	"math/rand/v2"
	"slices"
	"testing"
)

// told is a number with the place where All says that it stands.
type told struct{ id, where int }

// tellAll answers all that a sequence tells.
func tellAll(seq iter.Seq2[int, int]) []told {
	var l []told
	for id, where := range seq {
		l = append(l, told{id, where})
	}
	return l
}

// modelAll is what All is to tell: the union's numbers from the model's maps.
func modelAll(a, b []int) []told {
	inFirst, inSecond := modelSet(a), modelSet(b)
	var l []told
	for _, id := range modelRising(modelSet(slices.Concat(a, b))) {
		switch {
		case inFirst[id] && inSecond[id]:
			l = append(l, told{id, 3})
		case inFirst[id]:
			l = append(l, told{id, 1})
		default:
			l = append(l, told{id, 2})
		}
	}
	return l
}

// modelPick is what of them stands in one of the places.
func modelPick(l []told, places ...int) []int {
	var picked []int
	for _, x := range l {
		if slices.Contains(places, x.where) {
			picked = append(picked, x.id)
		}
	}
	return picked
}

// held wants of a and b what the model says.
func held(t *testing.T, a, b []int) {
	t.Helper()
	want := modelAll(a, b)
	if got := tellAll(All(a, b)); !slices.Equal(got, want) {
		t.Fatalf("All(%v, %v) tells %v, want %v", a, b, got, want)
	}
	if got := Union(a, b); !slices.Equal(got, modelPick(want, 1, 2, 3)) {
		t.Fatalf("Union(%v, %v) = %v", a, b, got)
	}
	if got := Inter(a, b); !slices.Equal(got, modelPick(want, 3)) {
		t.Fatalf("Inter(%v, %v) = %v", a, b, got)
	}
	if got := Diff(a, b); !slices.Equal(got, modelPick(want, 1)) {
		t.Fatalf("Diff(%v, %v) = %v", a, b, got)
	}
}

// follows wants what follows of a and b: 8.4.
func follows(t *testing.T, a, b []int) {
	t.Helper()
	union, inter, diff := Union(a, b), Inter(a, b), Diff(a, b)
	if !slices.Equal(union, Union(b, a)) || !slices.Equal(inter, Inter(b, a)) {
		t.Fatalf("of %v and %v Union or Inter is another the other way round", a, b)
	}
	if len(Inter(diff, inter)) != 0 || !slices.Equal(Union(diff, inter), Union(a, nil)) || len(diff)+len(inter) != len(Union(a, a)) {
		t.Fatalf("of %v and %v Diff %v and Inter %v do not make up the first", a, b, diff, inter)
	}
	var all []int
	for id := range All(a, b) {
		all = append(all, id)
	}
	if !slices.Equal(all, union) {
		t.Fatalf("All(%v, %v) tells %v, Union is %v", a, b, all, union)
	}
}

func TestHas(t *testing.T) { // 8.2: l need neither rise nor be ids
	l := []int{5, 1, 5, math.MinInt, -3, 0, 9, math.MaxInt, 2}
	for _, id := range l {
		if !Has(l, id) {
			t.Errorf("Has(%v, %d) is false", l, id)
		}
	}
	for _, id := range []int{math.MinInt + 1, -4, -1, 3, 4, 6, 8, 10, 1<<32 + 5, math.MaxInt - 1} {
		if Has(l, id) {
			t.Errorf("Has(%v, %d) is true", l, id)
		}
	}
	for _, id := range []int{0, 1, math.MinInt} {
		if Has(nil, id) || Has([]int{}, id) {
			t.Errorf("nothing has %d", id)
		}
	}
	if Has(l[:4], -3) {
		t.Error("Has looks behind the list's end")
	}
}

func TestHasOfAllRows(t *testing.T) { // 8.2
	numbers := []int{math.MinInt, 0, 1, 2, math.MaxInt}
	rowsOf(numbers, 4, func(l []int) {
		for _, id := range append(numbers, 3, -1) {
			if Has(l, id) != modelSet(l)[id] {
				t.Fatalf("Has(%v, %d) = %v", l, id, Has(l, id))
			}
		}
	})
}

func TestSetsFixed(t *testing.T) { // 8.2
	for _, x := range []struct{ a, b, union, inter, diff []int }{
		{[]int{2, 1}, []int{2, 5}, []int{1, 2, 5}, []int{2}, []int{1}},
		{[]int{1, 2, 3}, nil, []int{1, 2, 3}, nil, []int{1, 2, 3}},
		{nil, []int{1, 2, 3}, []int{1, 2, 3}, nil, nil},
		{[]int{}, []int{}, nil, nil, nil},
		{[]int{4, 4, 4}, []int{4, 4}, []int{4}, []int{4}, nil},
		{[]int{1, 2}, []int{3, 4}, []int{1, 2, 3, 4}, nil, []int{1, 2}},
		{[]int{3, 4}, []int{1, 2}, []int{1, 2, 3, 4}, nil, []int{3, 4}},
		{[]int{1, 3, 5}, []int{2, 3, 4}, []int{1, 2, 3, 4, 5}, []int{3}, []int{1, 5}},
		{[]int{0, -1, -2}, []int{-1}, []int{-2, -1, 0}, []int{-1}, []int{-2, 0}},
		{[]int{math.MaxInt, math.MinInt}, []int{0, math.MinInt}, []int{math.MinInt, 0, math.MaxInt}, []int{math.MinInt}, []int{math.MaxInt}},
	} {
		if l := Union(x.a, x.b); !slices.Equal(l, x.union) {
			t.Errorf("Union(%v, %v) = %v", x.a, x.b, l)
		}
		if l := Inter(x.a, x.b); !slices.Equal(l, x.inter) {
			t.Errorf("Inter(%v, %v) = %v", x.a, x.b, l)
		}
		if l := Diff(x.a, x.b); !slices.Equal(l, x.diff) {
			t.Errorf("Diff(%v, %v) = %v", x.a, x.b, l)
		}
	}
}

func TestAllFixed(t *testing.T) { // 8.2
	for _, x := range []struct {
		a, b []int
		want []told
	}{
		{[]int{2, 1}, []int{2, 5}, []told{{1, 1}, {2, 3}, {5, 2}}},
		{[]int{2, 5}, []int{2, 1}, []told{{1, 2}, {2, 3}, {5, 1}}},
		{nil, nil, nil},
		{[]int{7}, nil, []told{{7, 1}}},
		{nil, []int{7}, []told{{7, 2}}},
		{[]int{7, 7}, []int{7}, []told{{7, 3}}},
		{[]int{0, math.MaxInt}, []int{math.MinInt, 0, -1}, []told{{math.MinInt, 2}, {-1, 2}, {0, 3}, {math.MaxInt, 1}}},
	} {
		if got := tellAll(All(x.a, x.b)); !slices.Equal(got, x.want) {
			t.Errorf("All(%v, %v) tells %v, want %v", x.a, x.b, got, x.want)
		}
	}
}

func TestSetsOfAllRows(t *testing.T) { // 8.2, 8.4: all pairs of small lists, out of order and twice, at the ends of an int
	var rows [][]int
	rowsOf([]int{math.MinInt, 0, 1, math.MaxInt}, 3, func(l []int) { rows = append(rows, l) })
	for _, a := range rows {
		for _, b := range rows {
			held(t, a, b)
			follows(t, a, b)
		}
	}
}

func TestSetsDrawn(t *testing.T) { // 8.2, 8.4
	for seed := range uint64(2000) {
		d := rand.New(rand.NewPCG(seed, 82))
		span := 1 + d.IntN(1<<d.IntN(8))
		a, b := drawn(d, d.IntN(50), -span/2, span), drawn(d, d.IntN(50), -span/2, span)
		held(t, a, b)
		follows(t, a, b)
	}
}

func TestSetsOfMany(t *testing.T) { // 8.2: they take no more steps than sorting does
	const n = 300000
	var a, b []int
	for i := range n {
		a, b = append(a, 2*(n-i)), append(b, 3*i+1)
	}
	union, inter, diff := Union(a, b), Inter(a, b), Diff(a, b)
	if !slices.IsSorted(union) || len(inter)+len(diff) != n || len(union) != len(diff)+n || len(inter) != n/3 {
		t.Errorf("Union of %d, Inter of %d, Diff of %d", len(union), len(inter), len(diff))
	}
}

func TestAllAsTheyWere(t *testing.T) { // 8.2: as they were when All was called
	a, b := []int{2, 1, 4}, []int{2, 5}
	want := modelAll(a, b)
	seq := All(a, b)
	spoil(a)
	b[0], b[1] = 1, 9
	if got := tellAll(seq); !slices.Equal(got, want) {
		t.Errorf("changed behind the call All tells %v, want %v", got, want)
	}
	a, b = []int{1, 2, 3}, []int{2, 3, 4}
	want = modelAll(a, b)
	var got []told
	for id, where := range All(a, b) {
		got = append(got, told{id, where})
		spoil(a)
		spoil(b)
	}
	if !slices.Equal(got, want) {
		t.Errorf("changed on the way All tells %v, want %v", got, want)
	}
}

func TestAllIsLeftEarly(t *testing.T) { // 8.2: and begins again from its beginning
	a, b := []int{6, 1, 3, 8}, []int{3, 7, 8, 2}
	want := modelAll(a, b)
	seq := All(a, b)
	for stop := range len(want) + 1 {
		var got []told
		for id, where := range seq {
			if len(got) == stop {
				break
			}
			got = append(got, told{id, where})
		}
		if !slices.Equal(got, want[:stop]) {
			t.Errorf("left behind %d All tells %v", stop, got)
		}
	}
	if got := tellAll(seq); !slices.Equal(got, want) {
		t.Errorf("gone over again All tells %v, want %v", got, want)
	}
}

func TestAllIsNotAskedOn(t *testing.T) { // 8.2: who leaves is told nothing more
	seq := All([]int{1, 2, 3}, []int{2, 4})
	for stop := 1; stop <= 5; stop++ {
		calls := 0
		seq(func(int, int) bool {
			calls++
			return calls != stop
		})
		if want := min(stop, 4); calls != want {
			t.Errorf("left behind %d: told %d times", stop, calls)
		}
	}
}

func TestAllWithinItself(t *testing.T) { // 8.2, R5: one way over it is nothing to another
	a, b := []int{1, 2, 9}, []int{9, 4}
	seq, want := All(a, b), modelAll(a, b)
	var outer []told
	for id, where := range seq {
		outer = append(outer, told{id, where})
		if got := tellAll(seq); !slices.Equal(got, want) {
			t.Fatalf("within itself All tells %v, want %v", got, want)
		}
	}
	if !slices.Equal(outer, want) {
		t.Errorf("around itself All tells %v, want %v", outer, want)
	}
	next, stop := iter.Pull2(seq)
	other, halt := iter.Pull2(seq)
	defer stop()
	defer halt()
	for _, x := range want {
		id, where, ok := next()
		id2, where2, ok2 := other()
		if !ok || !ok2 || (told{id, where}) != x || (told{id2, where2}) != x {
			t.Errorf("two ways side by side: %d %d, %d %d, want %v", id, where, id2, where2, x)
		}
	}
}

func TestAllOutlivesAPanic(t *testing.T) { // 8.2, R5
	seq, want := All([]int{1, 2}, []int{2, 3}), modelAll([]int{1, 2}, []int{2, 3})
	func() {
		defer func() {
			if recover() != "mine" {
				t.Error("All keeps a panic of who goes over it")
			}
		}()
		for range seq {
			panic("mine")
		}
	}()
	if got := tellAll(seq); !slices.Equal(got, want) {
		t.Errorf("behind a panic All tells %v", got)
	}
}

func TestAllOfNoFunction(t *testing.T) { // R1
	All([]int{1, 2}, []int{2, 3})(nil)
	All(nil, nil)(nil)
}

func TestSetsKeepToTheirOwn(t *testing.T) { // R4: what is handed in stays, also behind its end; the answers are new
	calls := []func(a, b []int) []int{Union, Inter, Diff, func(a, b []int) []int { return Union(b, a) }, func(a, b []int) []int {
		tellAll(All(a, b))
		Has(a, 4)
		return nil
	}}
	lists := [][]int{{9, 4, 4, 2, 0, -1}, {1, 2, 3, 4, 0, -1}, {1, 1, 1, 1, 5, 5}, {5, 6, 7, 8, 1, 1}}
	for i, call := range calls {
		for _, first := range lists {
			for _, second := range append(lists, make([]int, 4)) {
				a, b := slices.Clone(first), slices.Clone(second)
				got := call(a[:4], b[:4])
				again := call(a[:4], b[:4])
				if !slices.Equal(a, first) || !slices.Equal(b, second) {
					t.Fatalf("call %d changed %v, %v to %v, %v", i, first, second, a, b)
				}
				want := slices.Clone(got)
				spoil(got)
				if !slices.Equal(a, first) || !slices.Equal(b, second) || !slices.Equal(again, want) {
					t.Fatalf("call %d of %v, %v answers memory of others", i, first, second)
				}
			}
			a := slices.Clone(first)
			got, again := call(a, a), call(a, nil) // one list twice, and nothing beside it
			want := slices.Clone(again)
			spoil(got)
			if !slices.Equal(a, first) || !slices.Equal(again, want) {
				t.Fatalf("call %d of %v with itself answers memory of others", i, first)
			}
			spoil(again)
			if !slices.Equal(a, first) {
				t.Fatalf("call %d of %v with nothing answers its memory", i, first)
			}
		}
	}
}
