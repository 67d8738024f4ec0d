package topk

import (
	"math"
	"slices"
	"testing"

	"lodestar/api"
)

// The face of the chapter: each call with its exact signature.
var (
	_ func(int, api.Hit, api.Hit) bool = Less
	_ func(int, []api.Hit) []api.Hit   = Sort
	_ func(int, int) *Best             = New
	_ func(*Best, api.Hit) bool        = (*Best).Add
	_ func(*Best) int                  = (*Best).Len
	_ func(*Best) bool                 = (*Best).Full
	_ func(*Best) (api.Hit, bool)      = (*Best).Worst
	_ func(*Best) []api.Hit            = (*Best).List
)

// metrics are the three.
func metrics() []int { return []int{api.MetricL2, api.MetricDot, api.MetricCos} }

// noMetrics are none.
func noMetrics() []int {
	return []int{0, -1, -2, -3, 4, 5, 1 << 8, 1<<8 + 1, 1<<32 + 1, 1<<32 + 3, math.MaxInt, math.MinInt, math.MinInt + 1}
}

// hit is the hit of an id with a score.
func hit(id, score int) api.Hit { return api.Hit{Id: id, Score: score} }

// numbers are some, rising, those at the ends of an int among them: the difference of two may leave it.
func numbers() []int {
	return []int{math.MinInt, math.MinInt + 1, -1 << 32, -2, -1, 0, 1, 2, 3, 1<<32 - 1, 1 << 32, api.MaxId, math.MaxInt - 1, math.MaxInt}
}

// grid are all hits of numbers, those with the least ids first.
func grid() []api.Hit {
	var l []api.Hit
	for _, id := range numbers() {
		for _, score := range numbers() {
			l = append(l, hit(id, score))
		}
	}
	return l
}

// modelLess is Less by words: of metrics that are ones.
func modelLess(metric int, a, b api.Hit) bool {
	if a.Score == b.Score {
		return a.Id < b.Id
	}
	return (a.Score < b.Score) == (metric == api.MetricL2)
}

// modelSort lays each hit ahead of the first that is worse.
func modelSort(metric int, l []api.Hit) []api.Hit {
	var sorted []api.Hit
	for _, h := range l {
		at := 0
		for at < len(sorted) && !modelLess(metric, h, sorted[at]) {
			at++
		}
		sorted = slices.Insert(sorted, at, h)
	}
	return sorted
}

func TestLessFixed(t *testing.T) { // 7.1
	for _, x := range []struct {
		metric int
		a, b   api.Hit
	}{
		{api.MetricL2, hit(1, 5), hit(2, 5)},
		{api.MetricL2, hit(1, 5), hit(1, 6)},
		{api.MetricL2, hit(9, 5), hit(1, 6)},
		{api.MetricL2, hit(9, -6), hit(1, -5)},
		{api.MetricL2, hit(9, math.MinInt), hit(1, math.MaxInt)},
		{api.MetricL2, hit(math.MinInt, 0), hit(math.MaxInt, 0)},
		{api.MetricDot, hit(1, 6), hit(1, 5)},
		{api.MetricDot, hit(9, 6), hit(1, 5)},
		{api.MetricDot, hit(1, 5), hit(2, 5)},
		{api.MetricDot, hit(9, math.MaxInt), hit(1, math.MinInt)},
		{api.MetricDot, hit(math.MinInt, 0), hit(math.MaxInt, 0)},
		{api.MetricCos, hit(1, 6), hit(1, 5)},
		{api.MetricCos, hit(9, 6), hit(1, 5)},
		{api.MetricCos, hit(1, 5), hit(2, 5)},
		{api.MetricCos, hit(9, math.MaxInt), hit(1, math.MinInt)},
		{api.MetricCos, hit(math.MinInt, 0), hit(math.MaxInt, 0)},
	} {
		if !Less(x.metric, x.a, x.b) || Less(x.metric, x.b, x.a) || Less(x.metric, x.a, x.a) {
			t.Errorf("Less(%d, %v, %v) = %v, the other way round %v", x.metric, x.a, x.b, Less(x.metric, x.a, x.b), Less(x.metric, x.b, x.a))
		}
	}
}

func TestLessOfAll(t *testing.T) { // 7.1, 7.4: of two unlike hits just one is better, none of two that are alike
	all := grid()
	for _, metric := range metrics() {
		for i, a := range all {
			for j, b := range all {
				if Less(metric, a, b) != modelLess(metric, a, b) {
					t.Fatalf("Less(%d, %v, %v) = %v", metric, a, b, Less(metric, a, b))
				}
				if (Less(metric, a, b) != Less(metric, b, a)) != (i != j) {
					t.Fatalf("of %v and %v by %d not just one is better", a, b, metric)
				}
			}
		}
	}
}

func TestLessLeadsOn(t *testing.T) { // 7.4: what is better than what is better is better
	var l []api.Hit
	for _, id := range []int{math.MinInt, -1, 0, 1, math.MaxInt} {
		for _, score := range []int{math.MinInt, -1, 0, 1, math.MaxInt} {
			l = append(l, hit(id, score))
		}
	}
	for _, metric := range metrics() {
		for _, a := range l {
			for _, b := range l {
				for _, c := range l {
					if Less(metric, a, b) && Less(metric, b, c) && !Less(metric, a, c) {
						t.Fatalf("by %d: %v is better than %v, that than %v", metric, a, b, c)
					}
				}
			}
		}
	}
}

func TestLessOfNoMetric(t *testing.T) { // 7.1
	all := grid()
	for _, metric := range noMetrics() {
		for _, a := range all {
			for _, b := range all {
				if Less(metric, a, b) {
					t.Fatalf("Less(%d, %v, %v)", metric, a, b)
				}
			}
		}
	}
}

func TestSortFixed(t *testing.T) { // 7.2
	l := []api.Hit{hit(2, 5), hit(1, 5), hit(3, 6), hit(4, -1), hit(1, 5), hit(1, 7)}
	l2 := []api.Hit{hit(4, -1), hit(1, 5), hit(1, 5), hit(2, 5), hit(3, 6), hit(1, 7)}
	dot := []api.Hit{hit(1, 7), hit(3, 6), hit(1, 5), hit(1, 5), hit(2, 5), hit(4, -1)}
	for metric, want := range map[int][]api.Hit{api.MetricL2: l2, api.MetricDot: dot, api.MetricCos: dot} {
		if s := Sort(metric, l); !slices.Equal(s, want) {
			t.Errorf("Sort(%d) = %v, want %v", metric, s, want)
		}
	}
}

func TestSortOfAll(t *testing.T) { // 7.2: whatever the order is in which they stand, equal ones as often
	all := grid()
	all = append(all, all[3:50]...)
	back := slices.Clone(all)
	slices.Reverse(back)
	for _, metric := range metrics() {
		want := modelSort(metric, all)
		if len(want) != len(all) || !slices.Equal(Sort(metric, all), want) || !slices.Equal(Sort(metric, back), want) || !slices.Equal(Sort(metric, want), want) {
			t.Errorf("Sort(%d) of %d hits is not as the model's", metric, len(all))
		}
	}
}

func TestSortOfFew(t *testing.T) { // 7.2, R3
	for _, metric := range metrics() {
		if len(Sort(metric, nil)) != 0 || len(Sort(metric, []api.Hit{})) != 0 {
			t.Errorf("Sort(%d) of nothing is something", metric)
		}
		if s := Sort(metric, []api.Hit{{}}); !slices.Equal(s, []api.Hit{{}}) {
			t.Errorf("Sort(%d) of the hit of noughts: %v", metric, s)
		}
		same := slices.Repeat([]api.Hit{hit(7, 7)}, 100)
		if s := Sort(metric, same); !slices.Equal(s, same) {
			t.Errorf("Sort(%d) of a hundred alike: %v", metric, s)
		}
	}
}

func TestSortOfNoMetric(t *testing.T) { // 7.2
	for _, metric := range noMetrics() {
		for _, l := range [][]api.Hit{nil, {}, {{}}, {hit(1, 2)}, grid()} {
			if s := Sort(metric, l); len(s) != 0 {
				t.Errorf("Sort(%d) = %v", metric, s)
			}
		}
	}
}

func TestSortKeepsToItsOwn(t *testing.T) { // R4: what is handed in stays, also behind its end; the answer is new
	for _, metric := range metrics() {
		room := []api.Hit{hit(9, 3), hit(8, 4), hit(7, 3), hit(6, 5), hit(0, 1), hit(0, 9)}
		before := slices.Clone(room)
		s := Sort(metric, room[:4])
		if !slices.Equal(room, before) || len(s) != 4 {
			t.Fatalf("Sort(%d) of %v left %v, answered %v", metric, before, room, s)
		}
		again := Sort(metric, room[:4])
		spoil(s)
		if !slices.Equal(room, before) || !slices.Equal(again, modelSort(metric, before[:4])) {
			t.Errorf("Sort(%d) answers memory of others", metric)
		}
		sorted := Sort(metric, again)
		spoil(sorted)
		if !slices.Equal(again, modelSort(metric, before[:4])) {
			t.Errorf("Sort(%d) of what is sorted answers its memory", metric)
		}
	}
}

// spoil writes over all of l, and over the room behind its end.
func spoil(l []api.Hit) {
	l = l[:cap(l)]
	for i := range l {
		l[i] = hit(-77, -77)
	}
}
