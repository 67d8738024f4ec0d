package topk

import (
	"math"
	"math/rand/v2"
	"slices"
	"testing"

	"lodestar/api"
)

// model is a Best as a sorted row of unlike hits.
type model struct {
	metric, k int
	l         []api.Hit
}

func (m *model) add(h api.Hit) bool {
	if slices.Contains(m.l, h) {
		return false
	}
	l := modelSort(m.metric, append(slices.Clone(m.l), h))
	l = l[:min(len(l), m.k)]
	m.l = l
	return slices.Contains(l, h)
}

// same wants of b what the model has.
func same(t *testing.T, b *Best, m *model) {
	t.Helper()
	if b.Len() != len(m.l) || b.Full() != (len(m.l) == m.k) || !slices.Equal(b.List(), m.l) {
		t.Fatalf("of %d by %d: Len %d, Full %v, List %v, want %v", m.k, m.metric, b.Len(), b.Full(), b.List(), m.l)
	}
	if len(b.kept) != b.Len() { // no more is kept from call to call than is needed
		t.Fatalf("of %d by %d: %d are remembered of %d", m.k, m.metric, len(b.kept), b.Len())
	}
	worst, ok := b.Worst()
	if len(m.l) == 0 && (ok || worst != api.Hit{}) || len(m.l) > 0 && (!ok || worst != m.l[len(m.l)-1]) {
		t.Fatalf("of %d by %d: Worst %v, %v of %v", m.k, m.metric, worst, ok, m.l)
	}
}

// addAll adds the hits of l to a new Best of k, and wants at each step what a model answers.
func addAll(t *testing.T, metric, k int, l []api.Hit) *Best {
	t.Helper()
	b, m := New(metric, k), &model{metric: metric, k: k}
	same(t, b, m)
	for i, h := range l {
		if got, want := b.Add(h), m.add(h); got != want {
			t.Fatalf("of %d by %d: Add(%v) behind %v = %v", k, metric, h, l[:i], got)
		}
		same(t, b, m)
	}
	return b
}

func TestNewRefuses(t *testing.T) { // 7.3
	for _, k := range []int{0, -1, -2, math.MinInt} {
		for _, metric := range append(metrics(), noMetrics()...) {
			if New(metric, k) != nil {
				t.Errorf("New(%d, %d) is one", metric, k)
			}
		}
	}
	for _, k := range []int{1, 2, 1000, math.MaxInt} {
		for _, metric := range noMetrics() {
			if New(metric, k) != nil {
				t.Errorf("New(%d, %d) is one", metric, k)
			}
		}
	}
}

func TestNewTakes(t *testing.T) { // 7.3: a great k takes no room ahead, and is never reached
	for _, metric := range metrics() {
		for _, k := range []int{1, 2, api.MaxLimit, 1 << 40, math.MaxInt - 1, math.MaxInt} {
			b := New(metric, k)
			if b == nil {
				t.Fatalf("New(%d, %d) is none", metric, k)
			}
			if w, ok := b.Worst(); b.Len() != 0 || b.Full() || ok || w != (api.Hit{}) || len(b.List()) != 0 {
				t.Errorf("New(%d, %d) is a Best of something: %d, %v, %v, %v, %v", metric, k, b.Len(), b.Full(), w, ok, b.List())
			}
			if !b.Add(hit(3, 3)) || b.Len() != 1 || b.Full() != (k == 1) {
				t.Errorf("New(%d, %d) with a hit: %d, %v", metric, k, b.Len(), b.Full())
			}
		}
	}
}

func TestBestFixed(t *testing.T) { // 7.3
	b := New(api.MetricL2, 2)
	for _, x := range []struct {
		h    api.Hit
		kept bool
		list []api.Hit
	}{
		{hit(1, 9), true, []api.Hit{hit(1, 9)}},
		{hit(1, 9), false, []api.Hit{hit(1, 9)}},
		{hit(2, 3), true, []api.Hit{hit(2, 3), hit(1, 9)}},
		{hit(3, 5), true, []api.Hit{hit(2, 3), hit(3, 5)}},
		{hit(4, 5), false, []api.Hit{hit(2, 3), hit(3, 5)}},
		{hit(3, 5), false, []api.Hit{hit(2, 3), hit(3, 5)}},
		{hit(2, 3), false, []api.Hit{hit(2, 3), hit(3, 5)}},
		{hit(1, 9), false, []api.Hit{hit(2, 3), hit(3, 5)}},
		{hit(2, 5), true, []api.Hit{hit(2, 3), hit(2, 5)}}, // the same id, another score
		{hit(9, -1), true, []api.Hit{hit(9, -1), hit(2, 3)}},
		{hit(2, 5), false, []api.Hit{hit(9, -1), hit(2, 3)}},
	} {
		if b.Add(x.h) != x.kept || !slices.Equal(b.List(), x.list) {
			t.Errorf("Add(%v): not %v, or %v instead of %v", x.h, x.kept, b.List(), x.list)
		}
	}
}

func TestBestOfOne(t *testing.T) { // 7.3
	b := New(api.MetricDot, 1)
	for _, x := range []struct {
		h, worst api.Hit
	}{{hit(5, 0), hit(5, 0)}, {hit(6, 0), hit(5, 0)}, {hit(4, 0), hit(4, 0)}, {hit(1, -1), hit(4, 0)}, {hit(7, 1), hit(7, 1)}, {hit(7, 1), hit(7, 1)}} {
		before, _ := b.Worst()
		kept := b.Add(x.h)
		if w, ok := b.Worst(); w != x.worst || !ok || kept != (w != before) || b.Len() != 1 || !b.Full() {
			t.Errorf("Add(%v) = %v: %v, %v", x.h, kept, w, ok)
		}
	}
}

func TestBestOfNoughts(t *testing.T) { // 7.3: the hit of noughts is one as others are
	for _, metric := range metrics() {
		b := New(metric, 2)
		if !b.Add(api.Hit{}) || b.Add(api.Hit{}) || b.Len() != 1 {
			t.Errorf("by %d: %v", metric, b.List())
		}
		if w, ok := b.Worst(); !ok || w != (api.Hit{}) {
			t.Errorf("by %d: Worst %v, %v", metric, w, ok)
		}
	}
}

func TestNilBest(t *testing.T) { // R1
	var b *Best
	for range 2 {
		if w, ok := b.Worst(); b.Len() != 0 || b.Full() || ok || w != (api.Hit{}) || len(b.List()) != 0 || b.Add(hit(1, 1)) || b.Add(api.Hit{}) {
			t.Error("a nil Best answers")
		}
	}
}

// inOrders calls do with l in each order.
func inOrders(l []api.Hit, do func([]api.Hit)) {
	l = slices.Clone(l)
	var from func(int)
	from = func(at int) {
		if at == len(l) {
			do(l)
		}
		for i := at; i < len(l); i++ {
			l[at], l[i] = l[i], l[at]
			from(at + 1)
			l[at], l[i] = l[i], l[at]
		}
	}
	from(0)
}

func TestBestInAllOrders(t *testing.T) { // 7.3, 7.4
	l := []api.Hit{hit(1, 4), hit(2, 4), hit(2, 3), hit(3, 5), hit(1, 4), hit(-1, math.MaxInt), hit(7, math.MinInt)}
	for _, metric := range metrics() {
		unlike := slices.Compact(modelSort(metric, l))
		for k := 1; k <= len(l)+1; k++ {
			want := unlike[:min(k, len(unlike))]
			inOrders(l, func(l []api.Hit) {
				b := New(metric, k)
				for _, h := range l {
					b.Add(h)
				}
				if !slices.Equal(b.List(), want) {
					t.Fatalf("of %d by %d: of %v kept %v", k, metric, l, b.List())
				}
			})
		}
	}
}

func TestBestOfGrid(t *testing.T) { // 7.3: at the ends of an int, forwards and backwards
	all := grid()
	back := slices.Clone(all)
	slices.Reverse(back)
	for _, metric := range metrics() {
		sorted := modelSort(metric, all)
		worst := slices.Clone(sorted)
		slices.Reverse(worst)
		for _, k := range []int{1, 2, 3, 7, 20} {
			for _, l := range [][]api.Hit{all, back, sorted, worst} {
				if b := addAll(t, metric, k, l); !slices.Equal(b.List(), sorted[:k]) {
					t.Fatalf("of %d by %d: kept %v", k, metric, b.List())
				}
			}
		}
	}
}

func TestDrawnBests(t *testing.T) { // 7.3, 7.4
	for seed := range uint64(3000) {
		d := rand.New(rand.NewPCG(seed, 7))
		metric, k := 1+d.IntN(3), 1+d.IntN(1<<d.IntN(6))
		ids, scores := 1+d.IntN(1<<d.IntN(8)), 1+d.IntN(1<<d.IntN(8))
		l := make([]api.Hit, d.IntN(80))
		for i := range l {
			l[i] = hit(d.IntN(ids)-ids/2, d.IntN(scores)-scores/2)
		}
		b := addAll(t, metric, k, l)
		unlike := slices.Compact(Sort(metric, l))
		if !slices.Equal(b.List(), unlike[:min(k, len(unlike))]) {
			t.Fatalf("of %d by %d: of %v kept %v", k, metric, l, b.List())
		}
	}
}

func TestGreatBests(t *testing.T) { // 7.3, 7.4: a hundred thousand and more, each twice, the worst of them first, last, or drawn
	const n, k = 200000, 100000
	l := make([]api.Hit, n)
	for i := range l {
		l[i] = hit(i+1, i/3)
	}
	back, drawn := slices.Clone(l), slices.Clone(l)
	slices.Reverse(back)
	d := rand.New(rand.NewPCG(7, 7))
	d.Shuffle(n, func(i, j int) { drawn[i], drawn[j] = drawn[j], drawn[i] })
	for _, metric := range metrics() {
		for _, l := range [][]api.Hit{l, back, drawn} {
			b := New(metric, k)
			for _, h := range l {
				b.Add(h)
				b.Add(h)
			}
			if !b.Full() || b.Len() != k || !slices.Equal(b.List(), Sort(metric, l)[:k]) {
				t.Fatalf("by %d: of %d not the best %d", metric, n, k)
			}
		}
	}
}

func TestBestsApart(t *testing.T) { // R5: what one Best keeps is nothing to another
	for _, metric := range metrics() {
		a, b := New(metric, 2), New(metric, 3)
		a.Add(hit(1, 1))
		if b.Len() != 0 || !b.Add(hit(1, 1)) || !b.Add(hit(2, 2)) || a.Len() != 1 || !a.Add(hit(2, 2)) || !a.Full() || b.Full() {
			t.Errorf("by %d: two Bests are not apart: %v, %v", metric, a.List(), b.List())
		}
	}
}

func TestListIsNew(t *testing.T) { // R4, R5
	for _, metric := range metrics() {
		b := New(metric, 5)
		for i := range 5 {
			b.Add(hit(i*7%5+1, i))
		}
		want := slices.Clone(b.List())
		first, second := b.List(), b.List()
		spoil(first)
		if !slices.Equal(second, want) || !slices.Equal(b.List(), want) {
			t.Fatalf("by %d: List answers what is kept, or another's memory", metric)
		}
		spoil(second)
		for _, h := range want {
			if b.Add(h) {
				t.Errorf("by %d: %v is not kept any more", metric, h)
			}
		}
		held := b.List()
		if !b.Add(hit(-9, want[0].Score)) || !slices.Equal(held, want) {
			t.Errorf("by %d: a list changes with a later call", metric)
		}
	}
}

func TestAskingChangesNothing(t *testing.T) { // R5
	for _, metric := range metrics() {
		b := New(metric, 4)
		for _, h := range []api.Hit{hit(5, 2), hit(4, 8), hit(3, 2), hit(2, 9)} {
			b.Add(h)
			list, n, full := b.List(), b.Len(), b.Full()
			worst, ok := b.Worst()
			for range 3 {
				w, o := b.Worst()
				if !slices.Equal(b.List(), list) || b.Len() != n || b.Full() != full || w != worst || o != ok {
					t.Fatalf("by %d: another answer than the first time", metric)
				}
			}
		}
	}
}
