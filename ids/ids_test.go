package ids

import (
	"iter"
	"math"
	"math/rand/v2"
	"slices"
	"testing"

	"lodestar/api"
)

// The face of the chapter: each call with its exact signature.
var (
	_ func([]int) api.Errno                  = Check
	_ func([]int) ([]int, api.Errno)         = Of
	_ func([]int, int) bool                  = Has
	_ func([]int, []int) []int               = Union
	_ func([]int, []int) []int               = Inter
	_ func([]int, []int) []int               = Diff
	_ func([]int, []int) iter.Seq2[int, int] = All
	_ func([]int) (string, api.Errno)        = Encode
	_ func(string) ([]int, api.Errno)        = Decode
)

// noIds are numbers that are none, the nearest and the farthest.
func noIds() []int {
	return []int{0, -1, -2, -api.MaxId, math.MinInt, math.MinInt + 1, api.MaxId + 1, api.MaxId + 2, 1 << 53, math.MaxInt - 1, math.MaxInt}
}

// someIds rise, from the least to the greatest.
func someIds() []int {
	return []int{1, 2, 3, 100, 1<<32 - 1, 1 << 32, api.MaxId - 1, api.MaxId}
}

// modelSet is what stands in l, by the model's map.
func modelSet(l []int) map[int]bool {
	set := map[int]bool{}
	for _, n := range l {
		set[n] = true
	}
	return set
}

// modelRising lays the numbers of set by picking the least that is left.
func modelRising(set map[int]bool) []int {
	var l []int
	for range len(set) {
		least, found := 0, false
		for n := range set {
			if (len(l) == 0 || n > l[len(l)-1]) && (!found || n < least) {
				least, found = n, true
			}
		}
		l = append(l, least)
	}
	return l
}

// isList tells by words whether l is a list of ids.
func isList(l []int) bool {
	for i, id := range l {
		if id < 1 || id > 1<<52 {
			return false
		}
		for _, ahead := range l[:i] {
			if ahead >= id {
				return false
			}
		}
	}
	return true
}

// isNoIds tells whether one of l is no id.
func isNoIds(l []int) bool {
	return slices.ContainsFunc(l, func(id int) bool { return !isList([]int{id}) })
}

// rowsOf calls do with each row of up to most of the numbers.
func rowsOf(numbers []int, most int, do func([]int)) {
	var from func(row []int)
	from = func(row []int) {
		do(slices.Clone(row))
		if len(row) == most {
			return
		}
		for _, n := range numbers {
			from(append(row, n))
		}
	}
	from(nil)
}

// spoil writes over all of l, and over the room behind its end.
func spoil(l []int) {
	l = l[:cap(l)]
	for i := range l {
		l[i] = -77
	}
}

// drawn are n numbers, from lowest on, below lowest and span.
func drawn(d *rand.Rand, n, lowest, span int) []int {
	l := make([]int, n)
	for i := range l {
		l[i] = lowest + d.IntN(span)
	}
	return l
}

func TestCheckTakes(t *testing.T) { // 8.1, R3
	for _, l := range [][]int{nil, {}, {1}, {2}, {api.MaxId}, {1, 2}, {1, api.MaxId}, {api.MaxId - 1, api.MaxId}, {1, 2, 3, 4, 5, 700}, someIds()} {
		if e := Check(l); e != api.OK {
			t.Errorf("Check(%v) = %d", l, e)
		}
	}
}

func TestCheckRefuses(t *testing.T) { // 8.1
	for _, l := range [][]int{{1, 1}, {2, 1}, {api.MaxId, api.MaxId}, {api.MaxId, 1}, {1, 2, 2}, {1, 1, 2}, {1, 3, 2}, {3, 1, 2}, {1, 2, 3, 4, 5, 5}, {1, 2, 3, 4, 5, 1}} {
		if e := Check(l); e != api.ErrList {
			t.Errorf("Check(%v) = %d", l, e)
		}
	}
	for _, n := range noIds() {
		if n < 1 && Check([]int{n, 1}) != api.ErrList || n > 1 && Check([]int{1, n}) != api.ErrList || Check([]int{n}) != api.ErrList || Check([]int{1, n, 3}) != api.ErrList {
			t.Errorf("Check takes %d", n)
		}
	}
}

func TestCheckOfAllRows(t *testing.T) { // 8.1
	rowsOf([]int{math.MinInt, -1, 0, 1, 2, 3, api.MaxId, api.MaxId + 1, math.MaxInt}, 4, func(l []int) {
		want := api.OK
		if !isList(l) {
			want = api.ErrList
		}
		if e := Check(l); e != want {
			t.Fatalf("Check(%v) = %d", l, e)
		}
	})
}

func TestOfFixed(t *testing.T) { // 8.1
	for _, x := range []struct{ l, want []int }{
		{nil, nil}, {[]int{}, nil}, {[]int{1}, []int{1}}, {[]int{3, 1, 3}, []int{1, 3}}, {[]int{1, 3}, []int{1, 3}},
		{[]int{5, 5, 5, 5}, []int{5}}, {[]int{4, 3, 2, 1}, []int{1, 2, 3, 4}}, {[]int{api.MaxId, 1}, []int{1, api.MaxId}},
		{[]int{api.MaxId, api.MaxId}, []int{api.MaxId}}, {someIds(), someIds()},
	} {
		if l, e := Of(x.l); !slices.Equal(l, x.want) || e != api.OK {
			t.Errorf("Of(%v) = %v, %d, want %v", x.l, l, e, x.want)
		}
	}
}

func TestOfRefuses(t *testing.T) { // 8.1, R2: nothing stands beside the error
	for _, n := range noIds() {
		for at := range len(someIds()) + 1 {
			l := slices.Insert(someIds(), at, n)
			if got, e := Of(l); len(got) != 0 || e != api.ErrList {
				t.Errorf("Of(%v) = %v, %d", l, got, e)
			}
		}
		if got, e := Of([]int{n}); len(got) != 0 || e != api.ErrList {
			t.Errorf("Of(%d) = %v, %d", n, got, e)
		}
	}
}

func TestOfAllRows(t *testing.T) { // 8.1
	rowsOf([]int{math.MinInt, 0, 1, 2, 3, api.MaxId, api.MaxId + 1, math.MaxInt}, 5, func(l []int) {
		got, e := Of(l)
		switch {
		case isNoIds(l):
			if len(got) != 0 || e != api.ErrList {
				t.Fatalf("Of(%v) = %v, %d", l, got, e)
			}
		case e != api.OK || !slices.Equal(got, modelRising(modelSet(l))):
			t.Fatalf("Of(%v) = %v, %d", l, got, e)
		}
	})
}

func TestOfDrawn(t *testing.T) { // 8.1
	for seed := range uint64(1000) {
		d := rand.New(rand.NewPCG(seed, 8))
		l := drawn(d, d.IntN(60), 1, 1+d.IntN(1<<d.IntN(20)))
		got, e := Of(l)
		if e != api.OK || !slices.Equal(got, modelRising(modelSet(l))) || Check(got) != api.OK {
			t.Fatalf("Of(%v) = %v, %d", l, got, e)
		}
	}
}

func TestOfKeepsToItsOwn(t *testing.T) { // R4: what is handed in stays, also behind its end; the answer is new
	for _, l := range [][]int{{9, 4, 4, 2, 0, -1}, {1, 2, 3, 4, 0, -1}, {7, 7, 7, 7, 7, 7}} {
		before := slices.Clone(l)
		got, _ := Of(l[:4])
		again, _ := Of(l[:4])
		if !slices.Equal(l, before) {
			t.Fatalf("Of changed %v to %v", before, l)
		}
		spoil(got)
		if !slices.Equal(l, before) || !slices.Equal(again, modelRising(modelSet(l[:4]))) {
			t.Errorf("Of(%v) answers memory of others", before[:4])
		}
	}
}
