package stats

import (
	"math"
	"math/rand/v2"
	"slices"
	"strconv"
	"testing"

	"lodestar/api"
	"lodestar/num"
)

// The face of the chapter: each call with its exact signature.
var (
	_ func([]int, []string, int) api.Stats      = Build
	_ func(api.Stats, int, int) (int, int, int) = Between
	_ func(api.Stats, string) int               = Word
	_ func(int, []int) int                      = And
	_ func(int, []int) int                      = Or
)

// Two words with one hash.
const (
	alike    = "hw4s10lnpfb"
	alikeToo = "x24xt1kp1jd"
)

// upTo are the numbers from 1 to n.
func upTo(n int) []int {
	var l []int
	for i := range n {
		l = append(l, i+1)
	}
	return l
}

// shuffled is l in another order.
func shuffled[T any](d *rand.Rand, l []T) []T {
	l = slices.Clone(l)
	d.Shuffle(len(l), func(i, j int) { l[i], l[j] = l[j], l[i] })
	return l
}

// of are the Stats of some buckets alone.
func of(l ...api.Bucket) api.Stats { return api.Stats{Buckets: l} }

// between wants Between to be the three numbers.
func between(t *testing.T, s api.Stats, low, high, least, estimate, most int) {
	t.Helper()
	if a, b, c := Between(s, low, high); a != least || b != estimate || c != most {
		t.Errorf("Between(%v, %d, %d) = %d, %d, %d, want %d, %d, %d", s.Buckets, low, high, a, b, c, least, estimate, most)
	}
}

func TestExamples(t *testing.T) { // 15.1, 15.2, 15.3: the chapter's examples
	s := Build(upTo(10), nil, 2)
	if s.Count != 10 || !slices.Equal(s.Buckets, []api.Bucket{{Low: 1, High: 5, Count: 5, Kinds: 5}, {Low: 6, High: 10, Count: 5, Kinds: 5}}) || len(s.Words) != 0 {
		t.Errorf("Build = %v", s)
	}
	between(t, s, 1, 7, 5, 7, 10)
	between(t, s, 9, 3, 0, 0, 0)
	if n := And(100, []int{50, 20}); n != 10 {
		t.Errorf("And = %d", n)
	}
	if n := Or(100, []int{50, 20}); n != 60 {
		t.Errorf("Or = %d", n)
	}
}

func TestBuildCuts(t *testing.T) { // 15.1: where n does not divide by b; b at least 1, at most n
	for _, x := range []struct {
		n, buckets int
		counts     []int
	}{
		{10, 3, []int{3, 3, 4}},
		{10, 4, []int{2, 3, 2, 3}},
		{7, 5, []int{1, 1, 2, 1, 2}},
		{5, 4, []int{1, 1, 1, 2}},
		{3, 3, []int{1, 1, 1}},
		{3, 4, []int{1, 1, 1}},
		{3, math.MaxInt, []int{1, 1, 1}},
		{3, 1, []int{3}},
		{3, 0, []int{3}},
		{3, -1, []int{3}},
		{3, math.MinInt, []int{3}},
		{1, 2, []int{1}},
		{1, 0, []int{1}},
		{0, 5, nil},
		{0, 0, nil},
		{0, math.MaxInt, nil},
		{0, math.MinInt, nil},
	} {
		var counts []int
		next := 1
		for _, b := range Build(upTo(x.n), nil, x.buckets).Buckets {
			counts = append(counts, b.Count)
			if b.Low != next || b.High != next+b.Count-1 || b.Kinds != b.Count {
				t.Errorf("%d values in %d buckets: %v from %d", x.n, x.buckets, b, next)
			}
			next += b.Count
		}
		if !slices.Equal(counts, x.counts) {
			t.Errorf("%d values in %d buckets: %v, want %v", x.n, x.buckets, counts, x.counts)
		}
	}
}

func TestBuildAllCuts(t *testing.T) { // 15.1
	for n := range 45 {
		for buckets := -2; buckets < n+3; buckets++ {
			built(t, Build(upTo(n), nil, buckets), upTo(n), nil, buckets)
		}
	}
}

func TestKinds(t *testing.T) { // 15.1: how many unlike ones; one that stands on both sides of a cut counts in both buckets
	for i, x := range []struct {
		values []int
		want   []api.Bucket
	}{
		{[]int{4, 4, 4, 4}, []api.Bucket{{Low: 4, High: 4, Count: 2, Kinds: 1}, {Low: 4, High: 4, Count: 2, Kinds: 1}}},
		{[]int{2, 1, 2, 1}, []api.Bucket{{Low: 1, High: 1, Count: 2, Kinds: 1}, {Low: 2, High: 2, Count: 2, Kinds: 1}}},
		{[]int{2, 1, 2, 2}, []api.Bucket{{Low: 1, High: 2, Count: 2, Kinds: 2}, {Low: 2, High: 2, Count: 2, Kinds: 1}}},
		{[]int{3, 3, 1, 1, 1, 2, 9}, []api.Bucket{{Low: 1, High: 1, Count: 3, Kinds: 1}, {Low: 2, High: 9, Count: 4, Kinds: 3}}},
		{[]int{math.MaxInt, math.MinInt, 0, math.MaxInt, math.MinInt}, []api.Bucket{{Low: math.MinInt, High: math.MinInt, Count: 2, Kinds: 1}, {Low: 0, High: math.MaxInt, Count: 3, Kinds: 2}}},
		{[]int{0, 0}, []api.Bucket{{Count: 1, Kinds: 1}, {Count: 1, Kinds: 1}}},
	} {
		if s := Build(x.values, nil, 2); !slices.Equal(s.Buckets, x.want) {
			t.Errorf("%d: of %v: %v, want %v", i, x.values, s.Buckets, x.want)
		}
	}
}

func TestBuildWords(t *testing.T) { // 15.1: of each hash an entry, by rising hashes; words may be any texts
	if num.Hash(alike) != num.Hash(alikeToo) {
		t.Fatal("the two words have two hashes")
	}
	words := []string{"Ulm", "", "Bonn", "Ulm", "\xff\xfe", "ulm", "Ulm", "", "\x00", alike, alikeToo, alike}
	s := Build(nil, words, 3)
	if s.Count != len(words) || len(s.Buckets) != 0 {
		t.Errorf("Build = %v", s)
	}
	for i, e := range s.Words {
		if i > 0 && s.Words[i-1].Id >= e.Id {
			t.Errorf("%v does not rise", s.Words)
		}
	}
	wants := []struct {
		word string
		n    int
	}{{"Ulm", 3}, {"", 2}, {"Bonn", 1}, {"\xff\xfe", 1}, {"ulm", 1}, {"\x00", 1}, {alike, 3}}
	if len(s.Words) != len(wants) {
		t.Errorf("%d entries of %d", len(s.Words), len(wants))
	}
	for _, x := range wants {
		if !slices.Contains(s.Words, api.Entry{N: x.n, Id: num.Hash(x.word)}) || Word(s, x.word) != x.n {
			t.Errorf("of %q: %v, Word %d, want %d", x.word, s.Words, Word(s, x.word), x.n)
		}
	}
	if !slices.Contains(s.Words, api.Entry{N: 2, Id: 3587885995934242}) { // the hash of "", as chapter 1 tells it
		t.Errorf("of no bytes: %v", s.Words)
	}
	if Word(s, alikeToo) != 3 || Word(s, "Rome") != 0 || Word(s, "Ul") != 0 {
		t.Errorf("Word: %d, %d, %d", Word(s, alikeToo), Word(s, "Rome"), Word(s, "Ul"))
	}
}

func TestBuildOfBoth(t *testing.T) { // 15.1: values and words together, neither counts as the other
	s := Build([]int{5, 5, 7}, []string{"5", "a", "5", "5"}, 2)
	built(t, s, []int{5, 5, 7}, []string{"5", "a", "5", "5"}, 2)
	if s.Count != 7 || len(s.Buckets) != 2 || len(s.Words) != 2 {
		t.Errorf("Build = %v", s)
	}
	none := Build(nil, nil, 4)
	if none.Count != 0 || len(none.Buckets) != 0 || len(none.Words) != 0 || Word(none, "") != 0 {
		t.Errorf("of nothing: %v", none)
	}
	between(t, none, math.MinInt, math.MaxInt, 0, 0, 0)
	between(t, api.Stats{}, 0, 0, 0, 0, 0)
	between(t, api.Stats{Count: 9}, 0, 9, 0, 0, 0)
}

func TestOrderPlaysNoPart(t *testing.T) { // 15.1, R5
	d := rand.New(rand.NewPCG(1, 15))
	values, words := []int{5, -3, 5, 0, 9, 9, 9, math.MinInt, 2, 2, math.MaxInt}, []string{"a", "b", "a", "c", "", alike, alikeToo}
	want := Build(values, words, 4)
	for range 200 {
		s := Build(shuffled(d, values), shuffled(d, words), 4)
		if s.Count != want.Count || !slices.Equal(s.Buckets, want.Buckets) || !slices.Equal(s.Words, want.Words) {
			t.Fatalf("%v, in another order %v", want, s)
		}
	}
}

func TestBetweenEnds(t *testing.T) { // 15.2: both ends count; buckets that are only touched are met
	s := of(api.Bucket{Low: 10, High: 19, Count: 20, Kinds: 3}, api.Bucket{Low: 20, High: 20, Count: 5, Kinds: 1}, api.Bucket{Low: 22, High: 25, Count: 3, Kinds: 2})
	for _, x := range [][5]int{
		{10, 19, 20, 20, 20},
		{10, 25, 28, 28, 28},
		{math.MinInt, math.MaxInt, 28, 28, 28},
		{9, 9, 0, 0, 0},
		{9, 10, 0, 2, 20},
		{10, 10, 0, 2, 20},
		{19, 19, 0, 2, 20},
		{11, 18, 0, 16, 20},
		{10, 18, 0, 18, 20},
		{11, 19, 0, 18, 20},
		{19, 20, 5, 7, 25},
		{20, 20, 5, 5, 5},
		{20, 21, 5, 5, 5},
		{21, 21, 0, 0, 0},
		{21, 22, 0, 0, 3},
		{22, 23, 0, 1, 3},
		{23, 25, 0, 2, 3},
		{25, 25, 0, 0, 3},
		{25, 26, 0, 0, 3},
		{26, 30, 0, 0, 0},
		{15, 22, 5, 15, 28},
		{25, 10, 0, 0, 0},
		{16, 15, 0, 0, 0},
		{math.MaxInt, math.MinInt, 0, 0, 0},
	} {
		between(t, s, x[0], x[1], x[2], x[3], x[4])
	}
	between(t, of(api.Bucket{Low: -7, High: -5, Count: 10}, api.Bucket{Low: -5, High: 1, Count: 7}), -6, -1, 0, 6+5, 17)
}

func TestBetweenOfAnyBuckets(t *testing.T) { // 15.2: Low above High, Count below 0; out of order, over one another, twice
	for _, x := range []struct {
		s                     api.Stats
		low, high             int
		least, estimate, most int
	}{
		{of(api.Bucket{Low: 5, High: 4, Count: 9}), 0, 9, 0, 0, 0},
		{of(api.Bucket{Low: 5, High: 4, Count: 9}), 4, 5, 0, 0, 0},
		{of(api.Bucket{Low: 5, High: 4, Count: 9}), 5, 4, 0, 0, 0},
		{of(api.Bucket{Low: 9, High: 0, Count: 9}), 3, 6, 0, 0, 0},
		{of(api.Bucket{Low: math.MaxInt, High: math.MinInt, Count: 9}), math.MinInt, math.MaxInt, 0, 0, 0},
		{of(api.Bucket{Low: 0, High: 9, Count: -1}), 0, 9, 0, 0, 0},
		{of(api.Bucket{Low: 0, High: 9, Count: -10}), 0, 4, 0, 0, 0},
		{of(api.Bucket{Low: 0, High: 9, Count: math.MinInt}), 0, 4, 0, 0, 0},
		{of(api.Bucket{Low: 0, High: 9}), 0, 4, 0, 0, 0},
		{of(api.Bucket{Low: 0, High: 9, Count: -10}, api.Bucket{Low: 0, High: 9, Count: 10}), 0, 4, 0, 5, 10},
		{of(api.Bucket{Low: 9, High: 0, Count: 10}, api.Bucket{Low: 0, High: 9, Count: 10}), 0, 9, 10, 10, 10},
		{of(api.Bucket{Low: 0, High: 9, Count: 10}, api.Bucket{Low: 0, High: 9, Count: 10}), 0, 4, 0, 10, 20},
		{of(api.Bucket{Low: 6, High: 9, Count: 4}, api.Bucket{Low: 0, High: 7, Count: 8}), 3, 9, 4, 9, 12},
		{of(api.Bucket{Low: 0, High: 2, Count: 2}, api.Bucket{Low: 10, High: 12, Count: 2}), 2, 11, 0, 0 + 1, 4}, // each is cut downwards by itself
	} {
		between(t, x.s, x.low, x.high, x.least, x.estimate, x.most)
	}
}

func TestBetweenWhereSizesLeave(t *testing.T) { // 15.2: half of the Count, downwards
	for _, x := range []struct {
		b                     api.Bucket
		low, high             int
		least, estimate, most int
	}{
		{api.Bucket{Low: 0, High: math.MaxInt - 1, Count: 1}, 0, math.MaxInt - 2, 0, 0, 1}, // the greatest size that is an int
		{api.Bucket{Low: 0, High: math.MaxInt - 1, Count: 1}, 1, math.MaxInt, 0, 0, 1},
		{api.Bucket{Low: 1, High: math.MaxInt, Count: 5}, 1, 7, 0, 0, 5},
		{api.Bucket{Low: math.MinInt, High: -2, Count: 7}, -5, 5, 0, 0, 7},
		{api.Bucket{Low: 0, High: math.MaxInt, Count: 7}, 0, 5, 0, 3, 7}, // one more
		{api.Bucket{Low: math.MinInt, High: -1, Count: 7}, -5, 5, 0, 3, 7},
		{api.Bucket{Low: -1, High: math.MaxInt - 1, Count: 7}, -5, -1, 0, 3, 7},
		{api.Bucket{Low: math.MinInt, High: math.MaxInt, Count: 7}, 0, 0, 0, 3, 7}, // 2^64 numbers
		{api.Bucket{Low: math.MinInt, High: math.MaxInt, Count: 7}, math.MinInt + 1, math.MaxInt, 0, 3, 7},
		{api.Bucket{Low: math.MinInt, High: math.MaxInt, Count: 7}, math.MinInt, math.MaxInt - 1, 0, 3, 7},
		{api.Bucket{Low: math.MinInt, High: math.MaxInt - 1, Count: 8}, 1, 2, 0, 4, 8},
		{api.Bucket{Low: math.MinInt, High: math.MaxInt, Count: 7}, math.MinInt, math.MaxInt, 7, 7, 7}, // whole in it: all, whatever its size
		{api.Bucket{Low: math.MinInt, High: math.MaxInt, Count: 1}, 0, 0, 0, 0, 1},
		{api.Bucket{Low: math.MinInt, High: math.MaxInt}, 0, 0, 0, 0, 0},
		{api.Bucket{Low: math.MinInt, High: math.MaxInt, Count: math.MaxInt}, 0, 0, 0, math.MaxInt / 2, math.MaxInt},
	} {
		between(t, of(x.b), x.low, x.high, x.least, x.estimate, x.most)
	}
}

func TestBetweenWhereProductsLeave(t *testing.T) { // 15.2: half of the Count, downwards
	for _, x := range []struct {
		b                     api.Bucket
		low, high             int
		least, estimate, most int
	}{
		{api.Bucket{Low: 0, High: 9, Count: math.MaxInt}, 0, 0, 0, math.MaxInt / 10, math.MaxInt},
		{api.Bucket{Low: 0, High: 9, Count: math.MaxInt}, 0, 1, 0, math.MaxInt / 2, math.MaxInt},
		{api.Bucket{Low: 0, High: 9, Count: math.MaxInt}, 9, 20, 0, math.MaxInt / 10, math.MaxInt},
		{api.Bucket{Low: 0, High: 9, Count: math.MaxInt}, 1, 20, 0, math.MaxInt / 2, math.MaxInt},
		{api.Bucket{Low: 0, High: 9, Count: math.MaxInt}, 0, 9, math.MaxInt, math.MaxInt, math.MaxInt},
		{api.Bucket{Low: 0, High: 7, Count: 1 << 61}, 0, 2, 0, 3 << 58, 1 << 61}, // 3 2^61
		{api.Bucket{Low: 0, High: 7, Count: 1 << 61}, 0, 3, 0, 1 << 60, 1 << 61}, // 2^63
		{api.Bucket{Low: 0, High: 7, Count: 1 << 61}, 0, 6, 0, 1 << 60, 1 << 61},
		{api.Bucket{Low: 0, High: 7, Count: 1<<61 + 1}, 0, 6, 0, 1 << 60, 1<<61 + 1},
		{api.Bucket{Low: 1, High: 1 << 62, Count: 2}, 2, 1 << 62, 0, 1, 2}, // 2 (2^62 - 1)
		{api.Bucket{Low: 1, High: 1 << 62, Count: 3}, 2, 1 << 62, 0, 1, 3}, // 3 (2^62 - 1): half, not 2
		{api.Bucket{Low: 1, High: math.MaxInt, Count: 1}, 2, math.MaxInt, 0, 0, 1},
		{api.Bucket{Low: 1, High: math.MaxInt, Count: 3}, 2, math.MaxInt, 0, 1, 3},
		{api.Bucket{Low: 1, High: 1 << 62, Count: 1 << 62}, 1, 1, 0, 1, 1 << 62},
		{api.Bucket{Low: 1, High: 1 << 62, Count: 1 << 62}, 1, 2, 0, 1 << 61, 1 << 62},
	} {
		between(t, of(x.b), x.low, x.high, x.least, x.estimate, x.most)
	}
}

func TestOnlyBucketsAreAsked(t *testing.T) { // 15.2, 15.3: Count, Kinds and Words play no part in Between, Buckets and Count none in Word
	b := []api.Bucket{{Low: 0, High: 9, Count: 10, Kinds: 3}}
	for _, count := range []int{math.MinInt, -1, 0, 1, math.MaxInt} {
		b[0].Kinds = count
		s := api.Stats{Count: count, Buckets: b, Words: []api.Entry{{N: count, Id: 3}}}
		between(t, s, 2, 4, 0, 3, 10)
		if Word(api.Stats{Count: count, Buckets: b, Words: []api.Entry{{N: 4, Id: num.Hash("a")}}}, "a") != 4 || Word(s, "a") != 0 {
			t.Error("Word")
		}
	}
}

func TestWordOfAnyEntries(t *testing.T) { // 15.3: N of the entry with that hash, wherever it stands, whatever it is
	a, b, c := num.Hash("a"), num.Hash("b"), num.Hash("c")
	for _, l := range [][]int{{a, b, c}, {c, b, a}, {b, a, c}, {b, c, a}, {a, c, b}, {c, a, b}} {
		for _, n := range []int{math.MinInt, -1, 0, 1, math.MaxInt} {
			var entries []api.Entry
			for _, id := range l {
				entries = append(entries, api.Entry{N: 7, Id: id})
			}
			entries[slices.Index(l, b)].N = n
			s := api.Stats{Count: 3, Words: entries}
			if Word(s, "b") != n || Word(s, "a") != 7 || Word(s, "c") != 7 || Word(s, "d") != 0 {
				t.Errorf("of %v: %d, %d, %d, %d", entries, Word(s, "a"), Word(s, "b"), Word(s, "c"), Word(s, "d"))
			}
		}
	}
	near := api.Stats{Words: []api.Entry{{N: 1, Id: a - 1}, {N: 2, Id: a + 1}, {N: 3, Id: -a}, {N: 4}, {N: a, Id: 5}}}
	if Word(near, "a") != 0 {
		t.Errorf("Word = %d", Word(near, "a"))
	}
}

func TestAndAndOr(t *testing.T) { // 15.3
	for _, x := range []struct {
		total     int
		l         []int
		both, one int
	}{
		{5, nil, 5, 0},
		{5, []int{}, 5, 0},
		{5, []int{5}, 5, 5},
		{5, []int{0}, 0, 0},
		{5, []int{3}, 3, 3},
		{5, []int{6}, 5, 5},
		{5, []int{-1}, 0, 0},
		{5, []int{math.MaxInt}, 5, 5},
		{5, []int{math.MinInt}, 0, 0},
		{5, []int{3, math.MinInt}, 0, 3},
		{5, []int{math.MaxInt, 3}, 3, 5},
		{5, []int{-3, 3}, 0, 3},
		{10, []int{5, 5}, 2, 8},     // 2.5 downwards; 10 less 2.5 downwards
		{10, []int{3, 3}, 0, 6},     // 0.9; 10 less 4.9
		{10, []int{9, 9, 9}, 7, 10}, // 8, then 7; each time downwards
		{7, []int{5, 3, 6}, 1, 7},   // 5, 2, 1
		{7, []int{6, 3, 5}, 1, 7},   // 6, 2, 1
		{100, []int{50, 20, 10}, 1, 64},
		{3, []int{1, 2, 2}, 0, 3},
		{0, []int{1}, 0, 0},
		{0, []int{0, -1, 5}, 0, 0},
		{0, nil, 0, 0},
		{-5, nil, 0, 0},
		{-5, []int{-5}, 0, 0},
		{-5, []int{3, -9}, 0, 0},
		{math.MinInt, []int{math.MinInt, math.MaxInt, 1}, 0, 0},
		{math.MinInt, nil, 0, 0},
		{1, []int{1, 1}, 1, 1},
		{1, []int{1, 0}, 0, 1},
		{math.MaxInt, nil, math.MaxInt, 0},
	} {
		if And(x.total, x.l) != x.both || Or(x.total, x.l) != x.one {
			t.Errorf("of %d, %v: And %d, Or %d, want %d, %d", x.total, x.l, And(x.total, x.l), Or(x.total, x.l), x.both, x.one)
		}
	}
}

func TestAndHangsOnTheOrder(t *testing.T) { // 15.3: what is cut off downwards is cut off ahead of the next
	if a, b := And(10, []int{5, 9, 3}), And(10, []int{3, 5, 9}); a != 1 || b != 0 {
		t.Errorf("And = %d, %d", a, b)
	}
	if a, b := Or(10, []int{5, 1, 7}), Or(10, []int{7, 5, 1}); a != 9 || b != 10 {
		t.Errorf("Or = %d, %d", a, b)
	}
}

func TestAndWhereProductsLeave(t *testing.T) { // 15.3: divided first, then times it: all of total is kept, what is less becomes 0
	const most = math.MaxInt
	for _, x := range []struct {
		total     int
		l         []int
		both, one int
	}{
		{most, []int{most}, most, most},
		{most, []int{7}, 7, 7},
		{most, []int{most - 1}, most - 1, most - 1},
		{most, []int{1 << 40}, 1 << 40, 1 << 40},
		{most, []int{1 << 40, 1 << 40}, 0, most}, // the second is less than total
		{most, []int{1 << 31, 1 << 31}, 0, most}, // its product, 2^62, is an int
		{most, []int{most, 1 << 62}, 1 << 62, most},
		{most, []int{1 << 62, most}, 0, most},
		{most, []int{1 << 62, 1}, 0, most},
		{1 << 62, []int{1 << 61, 4}, 0, 1 << 62}, // 2^63 leaves
		{1 << 62, []int{1 << 61, 3}, 1, 1 << 62}, // 3 2^61 does not
		{1 << 32, []int{1 << 31, 1 << 31}, 1 << 30, 3 << 30},
		{1 << 32, []int{1<<32 - 1, 1<<31 + 1}, 0, 1 << 32},       // 2^63 + 2^31 - 1 leaves
		{1 << 32, []int{1<<32 - 1, 1 << 31}, 1<<31 - 1, 1 << 32}, // 2^63 - 2^31 does not
	} {
		if And(x.total, x.l) != x.both || Or(x.total, x.l) != x.one {
			t.Errorf("of %d, %v: And %d, Or %d, want %d, %d", x.total, x.l, And(x.total, x.l), Or(x.total, x.l), x.both, x.one)
		}
	}
}

// spoil writes over all of l, and over the room behind its end.
func spoil[T any](l []T, with T) {
	l = l[:cap(l)]
	for i := range l {
		l[i] = with
	}
}

func TestBuildKeepsToItsOwn(t *testing.T) { // R4: what is handed in stays, also behind its end, and is not kept
	values, words := []int{5, 3, 3, 9, 1, 77, 78}, []string{"b", "a", "b", "x", "y"}
	hadValues, hadWords := slices.Clone(values), slices.Clone(words)
	for _, buckets := range []int{1, 2, 3, 5, 9} {
		s := Build(values[:5], words[:3], buckets)
		if !slices.Equal(values, hadValues) || !slices.Equal(words, hadWords) {
			t.Fatalf("Build changed %v to %v, %q to %q", hadValues, values, hadWords, words)
		}
		spoil(values, -5)
		spoil(words, "z")
		built(t, s, hadValues[:5], hadWords[:3], buckets)
		copy(values, hadValues)
		copy(words, hadWords)
	}
}

func TestAnswersAreNew(t *testing.T) { // R4, R5: each answer is memory of its own
	values, words := []int{5, 3, 3, 9, 1}, []string{"b", "a", "b"}
	s, same := Build(values, words, 3), Build(values, words, 3)
	spoil(s.Buckets, api.Bucket{Low: -1, High: -2, Count: -3, Kinds: -4})
	built(t, api.Stats{Count: s.Count, Buckets: same.Buckets, Words: s.Words}, values, words, 3)
	spoil(s.Words, api.Entry{N: -1, Id: -2})
	built(t, same, values, words, 3)
	built(t, Build(values, words, 3), values, words, 3)
}

func TestAskingChangesNothing(t *testing.T) { // R4, R5
	values, words := []int{5, 3, 3, 9, 1}, []string{"b", "a", "b"}
	s := Build(values, words, 3)
	s.Buckets = append(s.Buckets, api.Bucket{Low: 9, High: 1, Count: -4})[:3]
	s.Words = append(s.Words, api.Entry{N: 4, Id: 1})[:2]
	l := []int{-3, 50, 200, 7, 5}
	for range 3 {
		for low := range 11 {
			for high := range 11 {
				Between(s, low, high)
			}
		}
		if Word(s, "a") != 1 || Word(s, "b") != 2 || Word(s, "c") != 0 {
			t.Error("Word")
		}
		built(t, s, values, words, 3)
		if And(100, l[:4]) != 0 || Or(100, l[:4]) != 100 || !slices.Equal(l, []int{-3, 50, 200, 7, 5}) {
			t.Errorf("And, Or: %v", l)
		}
	}
	if s.Buckets[:4][3] != (api.Bucket{Low: 9, High: 1, Count: -4}) || s.Words[:3][2] != (api.Entry{N: 4, Id: 1}) {
		t.Error("what is behind the lists is changed")
	}
}

func TestEnds(t *testing.T) { // R1: also where nothing is promised: Counts that add up to more than an int
	for _, low := range edges() {
		for _, high := range edges() {
			for _, count := range []int{math.MinInt, -1, 0, 1, math.MaxInt} {
				b := api.Bucket{Low: low, High: high, Count: count}
				for _, n := range []int{math.MinInt, -1, 0, 1, math.MaxInt} {
					Between(of(b, b, api.Bucket{High: math.MaxInt, Count: math.MaxInt}), n, high)
					Between(of(b, b, b, b), low, n)
				}
			}
		}
	}
}

func TestMany(t *testing.T) { // 15.1, 15.2, 15.3: many values and words, in few buckets and in as many
	const n = 200000
	d := rand.New(rand.NewPCG(2, 15))
	var words []string
	for i := range n {
		words = append(words, strconv.Itoa(i%1000))
	}
	values, words := shuffled(d, upTo(n)), shuffled(d, words)
	for _, buckets := range []int{1, 16, 7777, n, math.MaxInt} {
		s := Build(values, words, buckets)
		if b := min(buckets, n); s.Count != 2*n || len(s.Buckets) != b || len(s.Words) != 1000 || Word(s, "17") != n/1000 || Word(s, "1000") != 0 {
			t.Fatalf("%d, %d buckets, %d words, %d", s.Count, len(s.Buckets), len(s.Words), Word(s, "17"))
		}
		for i, b := range s.Buckets {
			from, to := i*n/len(s.Buckets), (i+1)*n/len(s.Buckets)
			if b != (api.Bucket{Low: from + 1, High: to, Count: to - from, Kinds: to - from}) {
				t.Fatalf("bucket %d is %v", i, b)
			}
		}
		least, estimate, most := Between(s, 1000, 50000)
		if least > 49001 || most < 49001 || estimate != 49001 { // each value stands once: what is shared is what is there
			t.Errorf("%d buckets: %d, %d, %d", buckets, least, estimate, most)
		}
	}
	l := make([]int, n)
	for i := range l {
		l[i] = n - 1
	}
	if both, one := And(n, l), Or(n, l); both != 0 || one != n {
		t.Errorf("And %d, Or %d", both, one)
	}
}
