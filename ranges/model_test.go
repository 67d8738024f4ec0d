package ranges

import (
	"math/rand/v2"
	"slices"
	"testing"

	"lodestar/api"
)

// modelEntries lays each entry of l ahead of the first that is greater, unless it stands there.
func modelEntries(l []api.Entry) []api.Entry {
	var laid []api.Entry
	for _, e := range l {
		at := 0
		for at < len(laid) && (laid[at].N < e.N || laid[at].N == e.N && laid[at].Id < e.Id) {
			at++
		}
		if at == len(laid) || laid[at] != e {
			laid = slices.Insert(laid, at, e)
		}
	}
	return laid
}

// modelBetween goes through all unlike entries of l: how many lie from low to high, and their ids, each of which is the least above the one ahead.
func modelBetween(unlike []api.Entry, low, high int) ([]int, int) {
	found, count := map[int]bool{}, 0
	for _, e := range unlike {
		if low <= e.N && e.N <= high {
			found[e.Id] = true
			count++
		}
	}
	var l []int
	for len(l) < len(found) {
		least, some := 0, false
		for id := range found {
			if (len(l) == 0 || id > l[len(l)-1]) && (!some || id < least) {
				least, some = id, true
			}
		}
		l = append(l, least)
	}
	return l, count
}

// held wants x to be the index of the entries of l, as the model says, asked for all ranges between two of points.
func held(t *testing.T, x *Index, l []api.Entry, points []int) {
	t.Helper()
	unlike := modelEntries(l)
	if x.Len() != len(unlike) || !slices.Equal(x.Entries(), unlike) {
		t.Fatalf("of %v: Len %d, Entries %v", l, x.Len(), x.Entries())
	}
	least, ok := x.Least()
	greatest, is := x.Greatest()
	if ok != (len(unlike) > 0) || is != ok || ok && (least != unlike[0].N || greatest != unlike[len(unlike)-1].N) || !ok && (least != 0 || greatest != 0) {
		t.Fatalf("of %v: Least %d, %v, Greatest %d, %v", l, least, ok, greatest, is)
	}
	for _, low := range points {
		for _, high := range points {
			want, count := modelBetween(unlike, low, high)
			if got := x.Between(low, high); !slices.Equal(got, want) || x.Count(low, high) != count {
				t.Fatalf("of %v: Between(%d, %d) = %v, Count %d, want %v, %d", l, low, high, got, x.Count(low, high), want, count)
			}
		}
	}
}

// rowsOf calls do with each row of up to most of the entries.
func rowsOf(entries []api.Entry, most int, do func([]api.Entry)) {
	var from func(row []api.Entry)
	from = func(row []api.Entry) {
		do(slices.Clone(row))
		if len(row) == most {
			return
		}
		for _, e := range entries {
			from(append(row, e))
		}
	}
	from(nil)
}

func TestAllRows(t *testing.T) { // 13.1, 13.2: all rows of a few entries, twice and out of order
	few := []api.Entry{entry(0, 0), entry(0, 1), entry(1, 0), entry(1, -1), entry(-1, 1), entry(3, 1)}
	rowsOf(few, 5, func(l []api.Entry) {
		held(t, Build(l), l, []int{-2, -1, 0, 1, 2, 3})
	})
}

// drawn are n entries, whose N and Ids lie around 0.
func drawn(d *rand.Rand, n, numbers, ids int) []api.Entry {
	l := make([]api.Entry, n)
	for i := range l {
		l[i] = entry(d.IntN(numbers)-numbers/2, d.IntN(ids)-ids/2)
	}
	return l
}

func TestDrawn(t *testing.T) { // 13.1, 13.2
	for seed := range uint64(1000) {
		d := rand.New(rand.NewPCG(seed, 131))
		numbers := 1 + d.IntN(1<<d.IntN(8))
		l := drawn(d, d.IntN(60), numbers, 1+d.IntN(1<<d.IntN(8)))
		points := []int{-numbers, numbers}
		for range 6 {
			points = append(points, d.IntN(numbers+2)-numbers/2-1)
		}
		held(t, Build(l), l, points)
	}
}

func TestOrderPlaysNoPart(t *testing.T) { // 13.3
	for seed := range uint64(300) {
		d := rand.New(rand.NewPCG(seed, 133))
		l := drawn(d, d.IntN(40), 10, 10)
		points := []int{-6, -5, -2, 0, 1, 4, 5}
		for range 3 {
			held(t, Build(shuffled(d, l)), l, points)
		}
	}
}

func TestCountsAddUp(t *testing.T) { // 13.3: of neighbouring ranges
	for seed := range uint64(300) {
		d := rand.New(rand.NewPCG(seed, 134))
		x := Build(drawn(d, d.IntN(80), 20, 10))
		for low := -12; low <= 12; low++ {
			for middle := low - 1; middle <= 12; middle++ {
				for high := middle; high <= 12; high++ {
					if x.Count(low, middle)+x.Count(middle+1, high) != x.Count(low, high) {
						t.Fatalf("of %v Counts from %d over %d to %d do not add up", x.Entries(), low, middle, high)
					}
				}
			}
		}
	}
}

func TestAskingChangesNothing(t *testing.T) { // R5
	d := rand.New(rand.NewPCG(5, 13))
	l := drawn(d, 50, 12, 12)
	x := Build(l)
	for range 50 {
		low, high := d.IntN(16)-8, d.IntN(16)-8
		first, n := x.Between(low, high), x.Count(low, high)
		held(t, x, l, []int{-7, -6, 0, 3, 5, 6})
		if !slices.Equal(x.Between(low, high), first) || x.Count(low, high) != n {
			t.Fatalf("Between(%d, %d) is another than the first time", low, high)
		}
	}
}
