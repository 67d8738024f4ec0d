package ranges

import (
	"math"
	"math/rand/v2"
	"slices"
	"testing"

	"lodestar/api"
)

// The face of the chapter: each call with its exact signature.
var (
	_ func([]api.Entry) *Index     = Build
	_ func(*Index, int, int) []int = (*Index).Between
	_ func(*Index, int, int) int   = (*Index).Count
	_ func(*Index) int             = (*Index).Len
	_ func(*Index) (int, bool)     = (*Index).Least
	_ func(*Index) (int, bool)     = (*Index).Greatest
	_ func(*Index) []api.Entry     = (*Index).Entries
)

// entry is a number under an id.
func entry(n, id int) api.Entry { return api.Entry{N: n, Id: id} }

// example are the entries of the chapter's example.
func example() []api.Entry {
	return []api.Entry{entry(5, 1), entry(3, 2), entry(5, 1), entry(7, 2)}
}

// numbers are some, those at the ends of an int among them: the difference of two may leave it.
func numbers() []int {
	return []int{math.MinInt, math.MinInt + 1, -1 << 53, -2, -1, 0, 1, 2, 1 << 32, api.MaxId, math.MaxInt - 1, math.MaxInt}
}

// grid are all entries of numbers, by N, then Id.
func grid() []api.Entry {
	var l []api.Entry
	for _, n := range numbers() {
		for _, id := range numbers() {
			l = append(l, entry(n, id))
		}
	}
	return l
}

// shuffled is l in another order.
func shuffled(d *rand.Rand, l []api.Entry) []api.Entry {
	l = slices.Clone(l)
	d.Shuffle(len(l), func(i, j int) { l[i], l[j] = l[j], l[i] })
	return l
}

// spoil writes over all of l, and over the room behind its end.
func spoil[T any](l []T, with T) {
	l = l[:cap(l)]
	for i := range l {
		l[i] = with
	}
}

func TestExample(t *testing.T) { // 13.1, 13.2: the chapter's example
	x := Build(example())
	if x.Len() != 3 {
		t.Errorf("Len = %d", x.Len())
	}
	if l := x.Between(3, 5); !slices.Equal(l, []int{1, 2}) {
		t.Errorf("Between(3, 5) = %v", l)
	}
	if l := x.Between(5, 9); !slices.Equal(l, []int{1, 2}) {
		t.Errorf("Between(5, 9) = %v", l)
	}
	if n := x.Count(5, 9); n != 2 {
		t.Errorf("Count(5, 9) = %d", n)
	}
	if l, n := x.Between(9, 5), x.Count(9, 5); len(l) != 0 || n != 0 {
		t.Errorf("Between(9, 5) = %v, Count %d", l, n)
	}
	if n, ok := x.Least(); n != 3 || !ok {
		t.Errorf("Least = %d, %v", n, ok)
	}
	if n, ok := x.Greatest(); n != 7 || !ok {
		t.Errorf("Greatest = %d, %v", n, ok)
	}
	if l := x.Entries(); !slices.Equal(l, []api.Entry{entry(3, 2), entry(5, 1), entry(7, 2)}) {
		t.Errorf("Entries = %v", l)
	}
}

func TestUnlikeOnes(t *testing.T) { // 13.1: only the same N and Id are one
	for _, x := range []struct{ l, want []api.Entry }{
		{[]api.Entry{entry(1, 2), entry(2, 1)}, []api.Entry{entry(1, 2), entry(2, 1)}},
		{[]api.Entry{entry(1, 2), entry(1, 1), entry(1, 2)}, []api.Entry{entry(1, 1), entry(1, 2)}},
		{[]api.Entry{entry(2, 1), entry(1, 1), entry(2, 1)}, []api.Entry{entry(1, 1), entry(2, 1)}},
		{slices.Repeat([]api.Entry{entry(4, 4)}, 100), []api.Entry{entry(4, 4)}},
		{[]api.Entry{{}}, []api.Entry{{}}},
		{[]api.Entry{{}, {}}, []api.Entry{{}}},
		{[]api.Entry{entry(math.MaxInt, 1), entry(math.MinInt, 2)}, []api.Entry{entry(math.MinInt, 2), entry(math.MaxInt, 1)}},
		{[]api.Entry{entry(0, math.MaxInt), entry(0, math.MinInt)}, []api.Entry{entry(0, math.MinInt), entry(0, math.MaxInt)}},
	} {
		if i := Build(x.l); i.Len() != len(x.want) || !slices.Equal(i.Entries(), x.want) {
			t.Errorf("Build(%v): Len %d, Entries %v", x.l, i.Len(), i.Entries())
		}
	}
}

func TestLeastAndGreatest(t *testing.T) { // 13.1: also where the zero is the N, or the Ids stand the other way round
	for _, x := range []struct {
		l               []api.Entry
		least, greatest int
	}{
		{[]api.Entry{entry(0, 9)}, 0, 0},
		{[]api.Entry{entry(-4, 9)}, -4, -4},
		{[]api.Entry{entry(2, 1), entry(1, 2)}, 1, 2},
		{[]api.Entry{entry(1, 2), entry(1, 1)}, 1, 1},
		{[]api.Entry{entry(0, 5), entry(-1, 7), entry(3, -8)}, -1, 3},
		{[]api.Entry{entry(math.MinInt, 0), entry(math.MaxInt, 0)}, math.MinInt, math.MaxInt},
	} {
		i := Build(x.l)
		if n, ok := i.Least(); n != x.least || !ok {
			t.Errorf("Least of %v = %d, %v", x.l, n, ok)
		}
		if n, ok := i.Greatest(); n != x.greatest || !ok {
			t.Errorf("Greatest of %v = %d, %v", x.l, n, ok)
		}
	}
}

func TestOfNothing(t *testing.T) { // 13.1, 13.2, R1, R2, R3: an index of nothing, and a nil one
	if Build(nil) == nil || Build([]api.Entry{}) == nil {
		t.Error("Build of nothing is nil")
	}
	for i, x := range []*Index{Build(nil), Build([]api.Entry{}), nil, {}} {
		if x.Len() != 0 || len(x.Entries()) != 0 {
			t.Errorf("%d: Len %d, Entries %v", i, x.Len(), x.Entries())
		}
		if n, ok := x.Least(); n != 0 || ok {
			t.Errorf("%d: Least %d, %v", i, n, ok)
		}
		if n, ok := x.Greatest(); n != 0 || ok {
			t.Errorf("%d: Greatest %d, %v", i, n, ok)
		}
		for _, low := range numbers() {
			for _, high := range numbers() {
				if len(x.Between(low, high)) != 0 || x.Count(low, high) != 0 {
					t.Errorf("%d: something lies from %d to %d", i, low, high)
				}
			}
		}
	}
}

func TestBetweenAtEdges(t *testing.T) { // 13.2: both with it, whatever the Ids are
	for _, n := range numbers() {
		x := Build([]api.Entry{entry(n, math.MinInt), entry(n, 7), entry(n, math.MaxInt)})
		for _, low := range numbers() {
			for _, high := range numbers() {
				var want []int
				if low <= n && n <= high {
					want = []int{math.MinInt, 7, math.MaxInt}
				}
				if l := x.Between(low, high); !slices.Equal(l, want) || x.Count(low, high) != len(want) {
					t.Errorf("of %d Between(%d, %d) = %v, Count %d", n, low, high, l, x.Count(low, high))
				}
			}
		}
	}
}

func TestBetweenTellsIdsOnce(t *testing.T) { // 13.2: an Id may stand with several N: it is told once, Count has each
	x := Build([]api.Entry{entry(1, 9), entry(2, 9), entry(3, 9), entry(2, -4), entry(3, 0), entry(4, 1)})
	for _, c := range []struct {
		low, high, count int
		want             []int
	}{
		{1, 1, 1, []int{9}},
		{1, 2, 3, []int{-4, 9}},
		{1, 3, 5, []int{-4, 0, 9}},
		{2, 3, 4, []int{-4, 0, 9}},
		{3, 3, 2, []int{0, 9}},
		{3, 4, 3, []int{0, 1, 9}},
		{0, 5, 6, []int{-4, 0, 1, 9}},
		{5, 9, 0, nil},
		{-9, 0, 0, nil},
		{3, 2, 0, nil},
		{4, 1, 0, nil},
		{math.MaxInt, math.MinInt, 0, nil},
	} {
		if l := x.Between(c.low, c.high); !slices.Equal(l, c.want) || x.Count(c.low, c.high) != c.count {
			t.Errorf("Between(%d, %d) = %v, Count %d", c.low, c.high, l, x.Count(c.low, c.high))
		}
	}
}

func TestGrid(t *testing.T) { // 13.1 to 13.3: any numbers and ids, in any order
	d := rand.New(rand.NewPCG(1, 13))
	all := grid()
	for range 20 {
		held(t, Build(shuffled(d, all)), all, numbers())
		held(t, Build(shuffled(d, slices.Repeat(all, 3))), all, numbers())
	}
	back := slices.Clone(all)
	slices.Reverse(back)
	held(t, Build(all), all, numbers())
	held(t, Build(back), all, numbers())
}

func TestBuildKeepsToItsOwn(t *testing.T) { // R4: what is handed in stays, also behind its end, and is not kept
	for _, room := range [][]api.Entry{
		{entry(9, 1), entry(4, 2), entry(4, 2), entry(2, 3), entry(0, 1), entry(-1, 1)},
		{entry(1, 1), entry(2, 2), entry(3, 3), entry(4, 4), entry(0, 1), entry(-1, 1)},
		slices.Repeat([]api.Entry{entry(7, 7)}, 6),
	} {
		before := slices.Clone(room)
		x := Build(room[:4])
		if !slices.Equal(room, before) {
			t.Fatalf("Build changed %v to %v", before, room)
		}
		spoil(room, entry(-77, -77))
		held(t, x, before[:4], []int{-78, -77, -1, 0, 1, 2, 3, 4, 5, 7, 9, 10})
	}
}

func TestAnswersAreNew(t *testing.T) { // R4, R5: each answer is memory of its own
	points := []int{-78, -77, -76, 2, 3, 4, 5, 6, 7, 8}
	x := Build(example())
	entries, again := x.Entries(), x.Entries()
	spoil(entries, entry(-77, -77))
	if !slices.Equal(again, x.Entries()) {
		t.Error("two answers of Entries share memory")
	}
	held(t, x, example(), points)
	for _, c := range [][2]int{{3, 3}, {3, 5}, {5, 9}, {math.MinInt, math.MaxInt}} {
		l, again := x.Between(c[0], c[1]), x.Between(c[0], c[1])
		want := slices.Clone(again)
		spoil(l, -77)
		if !slices.Equal(again, want) {
			t.Errorf("two answers of Between(%d, %d) share memory", c[0], c[1])
		}
		held(t, x, example(), points)
	}
}

func TestIndexesApart(t *testing.T) { // R5: what one index has is nothing to another
	l := example()
	x, y := Build(l), Build(l[:1])
	z := Build([]api.Entry{entry(3, 3)})
	points := []int{2, 3, 4, 5, 6, 7, 8}
	held(t, y, l[:1], points)
	held(t, x, l, points)
	held(t, z, []api.Entry{entry(3, 3)}, points)
}

func TestMany(t *testing.T) { // 13.1, 13.2: a great index, of which ranges are counted by halving
	const n = 300000
	l := make([]api.Entry, 0, 2*n)
	for i := range n {
		l = append(l, entry(i/3, n-i), entry(i/3, n-i))
	}
	x := Build(shuffled(rand.New(rand.NewPCG(2, 13)), l))
	if x.Len() != n {
		t.Fatalf("Len = %d", x.Len())
	}
	for low := range n / 3 {
		if x.Count(low, low+9) != min(30, n-3*low) {
			t.Fatalf("Count(%d, %d) = %d", low, low+9, x.Count(low, low+9))
		}
	}
	if l := x.Between(0, n); len(l) != n || l[0] != 1 || l[n-1] != n || !slices.IsSorted(l) {
		t.Errorf("Between of all are %d", len(l))
	}
}
