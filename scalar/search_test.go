package scalar

import (
	"math"
	"slices"
	"testing"

	"lodestar/api"
)

func item(id int, v ...int) api.Item { return api.Item{Id: id, V: v} }

// found wants of a Search just hits, given as id, score, id, score and so on.
func found(t *testing.T, metric int, q api.Scalar, v []int, items []api.Item, budget int, want ...int) {
	t.Helper()
	l, e := Search(metric, q, v, items, budget)
	var got []int
	for _, h := range l {
		got = append(got, h.Id, h.Score)
	}
	if e != api.OK || !slices.Equal(got, want) {
		t.Errorf("Search(%d, %v, %v, %v, %d) = %v, %d, want %v", metric, q, v, items, budget, l, e, want)
	}
}

// refused wants ErrVector, and nothing beside it.
func refused(t *testing.T, metric int, q api.Scalar, v []int, items []api.Item) {
	t.Helper()
	for _, budget := range []int{-1, 0, 1, 100} {
		if l, e := Search(metric, q, v, items, budget); len(l) != 0 || e != api.ErrVector {
			t.Errorf("Search(%d, %v, %v, %v, %d) = %v, %d", metric, q, v, items, budget, l, e)
		}
	}
}

func TestSearchBudget(t *testing.T) { // 17.3, 17.4: of 0 to 510 every second number is left, each even one as it is
	q := of(0, 510)
	items := []api.Item{item(1, 9), item(2, 11), item(3, 8), item(4, 500), item(5, 11)}
	v := []int{9} // rough: 8, 10, 8, 500, 10: scores 1, 1, 1, 491 times itself, 1
	for budget, want := range [][]int{{}, {1, 0}, {1, 0, 2, 4}, {1, 0, 3, 1, 2, 4}, {1, 0, 3, 1, 2, 4, 5, 4}, {1, 0, 3, 1, 2, 4, 5, 4, 4, 241081}} {
		found(t, api.MetricL2, q, v, items, budget, want...)
	}
	for _, budget := range []int{5, 6, 1000, math.MaxInt} {
		found(t, api.MetricL2, q, v, items, budget, 1, 0, 3, 1, 2, 4, 5, 4, 4, 241081)
	}
	for _, budget := range []int{0, -1, -5, math.MinInt} { // below 0 counts as 0
		found(t, api.MetricL2, q, v, items, budget)
	}
	for _, budget := range []int{-1, 0, 1, math.MaxInt} {
		found(t, api.MetricL2, q, v, nil, budget)
		found(t, api.MetricL2, q, v, []api.Item{}, budget)
	}
}

func TestSearchRoughIsNotTrue(t *testing.T) { // 17.3: what is roughly near goes ahead of what is truly near
	q := of(0, 1000) // 3 becomes 0, 4 becomes 3, 7 becomes 3, 8 becomes 7
	items := []api.Item{item(1, 7), item(2, 3)}
	found(t, api.MetricL2, q, []int{3}, items, 1, 1, 16) // of 2 roughly 9, truly 0
	found(t, api.MetricL2, q, []int{3}, items, 2, 2, 0, 1, 16)
	found(t, api.MetricDot, q, []int{-1}, []api.Item{item(1, 3), item(2, 1)}, 1, 1, -3) // both roughly 0
	found(t, api.MetricDot, q, []int{-1}, []api.Item{item(1, 3), item(2, 1)}, 2, 2, -1, 1, -3)
	found(t, api.MetricDot, q, []int{1}, []api.Item{item(2, 7), item(1, 4)}, 1, 1, 4) // both roughly 3
	found(t, api.MetricDot, q, []int{1}, []api.Item{item(2, 8), item(1, 7)}, 1, 2, 8)
	found(t, api.MetricDot, q, []int{1}, []api.Item{item(2, 8), item(1, 7)}, 2, 2, 8, 1, 7)
}

func TestSearchOutside(t *testing.T) { // 17.3: items, and v, need not lie in what was learnt; v itself is not encoded
	q := of(0, 10)
	items := []api.Item{item(1, -50), item(2, 500), item(3, 5), item(4, 9)} // roughly 0, 10, 4 (127 of 255), 8 (229)
	found(t, api.MetricL2, q, []int{100}, items, 1, 2, 160000)
	found(t, api.MetricL2, q, []int{100}, items, 2, 4, 8281, 2, 160000)
	found(t, api.MetricL2, q, []int{-7}, items, 1, 1, 1849)
	found(t, api.MetricL2, q, []int{-7}, items, 4, 3, 144, 4, 256, 1, 1849, 2, 257049)
	found(t, api.MetricDot, q, []int{-1}, items, 1, 1, 50)
	found(t, api.MetricDot, q, []int{-1}, items, 2, 1, 50, 3, -5)
	found(t, api.MetricL2, of(-32768, 32767), []int{-32768}, []api.Item{item(1, 32767), item(2, -32768)}, 2, 2, 0, 1, 65535*65535)
	found(t, api.MetricL2, of(5, 5), []int{-4}, []api.Item{item(2, 5), item(1, 6), item(3, -4)}, 1, 1, 100) // all are left as 5
}

func TestSearchCos(t *testing.T) { // 17.3: what is all 0 behind the code has the rough score 0
	const one = 1 << 20
	q := of(0, 1000, 0, 1000)
	items := []api.Item{item(1, 3, 0), item(2, 0, 1000), item(3, 1000, 0)} // the first is left as 0 0
	found(t, api.MetricCos, q, []int{1, 0}, items, 1, 3, one)
	found(t, api.MetricCos, q, []int{1, 0}, items, 2, 1, one, 3, one)
	found(t, api.MetricCos, q, []int{1, 0}, items, 3, 1, one, 3, one, 2, 0)
	found(t, api.MetricCos, q, []int{-1, 0}, items, 1, 1, -one) // 0 is more than -one
	found(t, api.MetricCos, q, []int{-1, 0}, items, 2, 2, 0, 1, -one)
	found(t, api.MetricCos, q, []int{-1, 0}, items, 3, 2, 0, 1, -one, 3, -one)
	flat := of(0, 0, 0, 0) // every item is left as 0 0
	found(t, api.MetricCos, flat, []int{1, 0}, items, 1, 1, one)
	found(t, api.MetricCos, flat, []int{1, 0}, items, 3, 1, one, 3, one, 2, 0)
	found(t, api.MetricL2, flat, []int{0, 0}, items, 2, 1, 9, 2, 1000000) // the others take it as it is
	found(t, api.MetricDot, flat, []int{0, 0}, items, 2, 1, 0, 2, 0)
	found(t, api.MetricL2, q, []int{0, 0}, []api.Item{item(1, 3, 0), item(2, 0, 0)}, 2, 2, 0, 1, 9)
}

func TestSearchTwice(t *testing.T) { // 17.3: an item counts as often as it stands there
	q := of(0, 510)
	a, b, c := item(1, 4), item(1, 4), item(2, 6)
	items := []api.Item{a, c, b, a}
	v := []int{4}
	for budget, want := range [][]int{{}, {1, 0}, {1, 0, 1, 0}, {1, 0, 1, 0, 1, 0}, {1, 0, 1, 0, 1, 0, 2, 4}, {1, 0, 1, 0, 1, 0, 2, 4}} {
		found(t, api.MetricL2, q, v, items, budget, want...)
	}
	// Of one id there are several items; the rough hits are unlike.
	items = []api.Item{item(1, 20), item(1, 4), item(1, 10)}
	for budget, want := range [][]int{{}, {1, 0}, {1, 0, 1, 36}, {1, 0, 1, 36, 1, 256}} {
		found(t, api.MetricL2, q, v, items, budget, want...)
	}
	// The rough hits are just the same, the items are not: those that stand ahead go first.
	found(t, api.MetricL2, q, v, []api.Item{item(1, 5), item(1, 4)}, 1, 1, 1)
	found(t, api.MetricL2, q, v, []api.Item{item(1, 4), item(1, 5)}, 1, 1, 0)
	found(t, api.MetricL2, q, v, []api.Item{item(1, 5), item(1, 4)}, 2, 1, 0, 1, 1)
	var many, twice []api.Item
	for i := range 100 {
		many = append(many, item(7, 4+i%2))
		twice = append(twice, item(7, 5-i%2))
	}
	found(t, api.MetricL2, q, v, many, 3, 7, 0, 7, 0, 7, 1)
	found(t, api.MetricL2, q, v, twice, 3, 7, 0, 7, 1, 7, 1)
	found(t, api.MetricDot, q, v, many, 3, 7, 20, 7, 16, 7, 16)
}

func TestSearchTwiceAmongOthers(t *testing.T) { // 17.3: equal rough hits in the order of their items, whatever stands between them
	q, v := of(0, 510), []int{0}
	var items []api.Item
	for i := range 300 {
		left := 2 * (i * 7 % 5) // the rough hits are of five kinds
		items = append(items, item(1, left+i*11%2))
	}
	for budget := range len(items) + 1 {
		got, e := Search(api.MetricL2, q, v, items, budget)
		if want, f := modelSearch(api.MetricL2, q, v, items, budget); !slices.Equal(got, want) || e != f {
			t.Fatalf("of %d: %v, %d, want %v, %d", budget, got, e, want, f)
		}
	}
}

func TestSearchIds(t *testing.T) { // 17.3: ids may be any; of the same score the smaller one is better
	q := of(0, 510)
	items := []api.Item{item(math.MaxInt, 2), item(0, 2), item(-1, 2), item(math.MinInt, 2), item(api.MaxId, 2)}
	found(t, api.MetricL2, q, []int{2}, items, 5, math.MinInt, 0, -1, 0, 0, 0, api.MaxId, 0, math.MaxInt, 0)
	found(t, api.MetricL2, q, []int{2}, items, 2, math.MinInt, 0, -1, 0)
	found(t, api.MetricDot, q, []int{2}, items, 3, math.MinInt, 4, -1, 4, 0, 4)
	found(t, api.MetricCos, q, []int{2}, items, 1, math.MinInt, 1<<20)
}

func TestSearchRefuses(t *testing.T) { // 17.3
	q, good := of(0, 10, 0, 10), item(1, 1, 1)
	for _, metric := range []int{0, -1, 4, 1 << 32, math.MinInt, math.MaxInt} { // no metric
		refused(t, metric, q, []int{1, 1}, []api.Item{good})
		refused(t, metric, q, []int{1, 1}, nil)
	}
	vectors := [][]int{nil, {}, {1}, {1, 1, 1}, row(64, 1), row(65, 1)}
	for _, x := range outside() {
		vectors = append(vectors, []int{x, 1}, []int{1, x})
	}
	for _, metric := range metrics() {
		found(t, metric, q, []int{1, 1}, []api.Item{good}, 0)
		for _, v := range vectors {
			refused(t, metric, q, v, nil)
			refused(t, metric, q, v, []api.Item{good})
			refused(t, metric, q, v, []api.Item{{Id: 1, V: v}})
			refused(t, metric, q, []int{1, 1}, []api.Item{{Id: 1, V: v}})
			refused(t, metric, q, []int{1, 1}, []api.Item{{Id: 1, V: v}, good, good})
			refused(t, metric, q, []int{1, 1}, []api.Item{good, {Id: 1, V: v}, good})
			refused(t, metric, q, []int{1, 1}, []api.Item{good, good, {Id: 1, V: v}})
		}
	}
	zero := []int{0, 0} // of no direction: MetricCos alone refuses it
	refused(t, api.MetricCos, q, zero, nil)
	refused(t, api.MetricCos, q, zero, []api.Item{good})
	refused(t, api.MetricCos, q, []int{1, 1}, []api.Item{good, item(2, 0, 0)})
	found(t, api.MetricL2, q, zero, []api.Item{item(2, 0, 0)}, 1, 2, 0)
	found(t, api.MetricDot, q, zero, []api.Item{item(2, 0, 0)}, 1, 2, 0)
}

func TestSearchWide(t *testing.T) { // 17.3: 64 components, from end to end
	q := api.Scalar{Low: row(64, -32768), High: row(64, 32767)}
	items := []api.Item{{Id: 1, V: row(64, 32767)}, {Id: 2, V: row(64, -32768)}}
	found(t, api.MetricL2, q, row(64, -32768), items, 2, 2, 0, 1, 64*65535*65535)
	found(t, api.MetricDot, q, row(64, -32768), items, 2, 2, 64<<30, 1, -64*32768*32767)
	refused(t, api.MetricL2, q, row(63, 1), items)
	refused(t, api.MetricL2, q, row(65, 1), items)
}

func TestSearchMemory(t *testing.T) { // R4, R5
	a, b := []int{9, 5, 77}, []int{1, 5, 77}
	room := []api.Item{{Id: 1, V: a[:2]}, {Id: 2, V: b[:2]}, {Id: 3, V: []int{0, 5}}, {Id: 99}}
	lows, highs, v := []int{0, 5, 66}, []int{10, 5, 66}, []int{0, 5, 88}
	q := api.Scalar{Low: lows[:2], High: highs[:2]}
	first, _ := Search(api.MetricL2, q, v[:2], room[:3], 3)
	second, _ := Search(api.MetricL2, q, v[:2], room[:3], 3)
	want := []api.Hit{{Id: 3, Score: 0}, {Id: 2, Score: 1}, {Id: 1, Score: 81}}
	if !slices.Equal(first, want) || !slices.Equal(second, want) {
		t.Fatalf("%v, %v", first, second)
	}
	clear(first)
	if !slices.Equal(second, want) {
		t.Errorf("two answers share memory")
	}
	ids := []int{room[0].Id, room[1].Id, room[2].Id, room[3].Id}
	if !slices.Equal(ids, []int{1, 2, 3, 99}) || !slices.Equal(room[0].V, []int{9, 5}) || !slices.Equal(room[1].V, []int{1, 5}) || !slices.Equal(room[2].V, []int{0, 5}) || room[3].V != nil {
		t.Errorf("items = %v", room)
	}
	if !slices.Equal(slices.Concat(a, b, lows, highs, v), []int{9, 5, 77, 1, 5, 77, 0, 5, 66, 10, 5, 66, 0, 5, 88}) {
		t.Errorf("%v, %v, %v, %v, %v", a, b, lows, highs, v)
	}
}
