package scalar

import (
	"math/rand/v2"
	"slices"
	"testing"

	"lodestar/api"
	"lodestar/topk"
	"lodestar/vector"
)

// modelPart tells whether n is a component.
func modelPart(n int) bool { return n >= -32768 && n <= 32767 }

// modelFits tells whether v has dim components, each one in range.
func modelFits(v []int, dim int) bool {
	return dim >= 1 && dim <= 64 && len(v) == dim && !slices.ContainsFunc(v, func(n int) bool { return !modelPart(n) })
}

// modelMayBe tells whether a quantizer may be, by the words of the chapter.
func modelMayBe(q api.Scalar) bool {
	if !modelFits(q.Low, len(q.Low)) || !modelFits(q.High, len(q.Low)) {
		return false
	}
	for i := range q.Low {
		if q.High[i] < q.Low[i] {
			return false
		}
	}
	return true
}

func modelTrain(l [][]int) (api.Scalar, api.Errno) {
	var q api.Scalar
	for _, v := range l {
		if !modelFits(v, len(l[0])) {
			return q, api.ErrTrain
		}
	}
	if len(l) == 0 {
		return q, api.ErrTrain
	}
	for i := range l[0] {
		var column []int
		for _, v := range l {
			column = append(column, v[i])
		}
		q.Low, q.High = append(q.Low, slices.Min(column)), append(q.High, slices.Max(column))
	}
	return q, api.OK
}

func modelEncode(q api.Scalar, v []int) (string, api.Errno) {
	if !modelMayBe(q) {
		return "", api.ErrTrain
	}
	if !modelFits(v, len(q.Low)) {
		return "", api.ErrVector
	}
	var codes []byte
	for i, x := range v {
		low, high, c := q.Low[i], q.High[i], 0
		for x >= low && low != high && c < 255 && (c+1)*(high-low) <= (x-low)*255 { // the greatest that is no more
			c++
		}
		if x > high {
			c = 255
		}
		codes = append(codes, byte(c))
	}
	return string(codes), api.OK
}

func modelDecode(q api.Scalar, s string) ([]int, api.Errno) {
	if !modelMayBe(q) {
		return nil, api.ErrTrain
	}
	if len(s) != len(q.Low) {
		return nil, api.ErrVector
	}
	var v []int
	for i := range len(s) {
		low, high := q.Low[i], q.High[i]
		product := int(s[i]) * (high - low)
		v = append(v, low+(product-product%255)/255)
	}
	return v, api.OK
}

func modelError(q api.Scalar) []int {
	var l []int
	for i := range q.Low {
		if modelMayBe(q) {
			l = append(l, (q.High[i]-q.Low[i])/255+1)
		}
	}
	return l
}

// modelSearch takes, budget times, the item whose rough hit is better than those of all others that are left, or the same as those behind it.
func modelSearch(metric int, q api.Scalar, v []int, items []api.Item, budget int) ([]api.Hit, api.Errno) {
	if !modelMayBe(q) {
		return nil, api.ErrTrain
	}
	bad := vector.Check(v, len(q.Low), metric) != 0
	for _, item := range items {
		bad = bad || vector.Check(item.V, len(q.Low), metric) != 0
	}
	if bad {
		return nil, api.ErrVector
	}
	rough := func(item api.Item) api.Hit {
		s, _ := modelEncode(q, item.V)
		left, _ := modelDecode(q, s)
		h := api.Hit{Id: item.Id}
		if metric != api.MetricCos || slices.ContainsFunc(left, func(n int) bool { return n != 0 }) {
			h.Score, _ = vector.Score(metric, v, left)
		}
		return h
	}
	left := slices.Clone(items)
	var hits []api.Hit
	for len(hits) < budget && len(left) > 0 {
		best := 0
		for i := range left {
			if topk.Less(metric, rough(left[i]), rough(left[best])) {
				best = i
			}
		}
		score, _ := vector.Score(metric, v, left[best].V)
		hits = append(hits, api.Hit{Id: left[best].Id, Score: score})
		left = slices.Delete(left, best, best+1)
	}
	return topk.Sort(metric, hits), api.OK
}

// alikeModel holds all calls against the model.
func alikeModel(t *testing.T, q api.Scalar, v []int, s string, metric int, items []api.Item, budget int) {
	t.Helper()
	got, e := Encode(q, v)
	if want, f := modelEncode(q, v); got != want || e != f {
		t.Fatalf("Encode(%v, %v) = %q, %d, want %q, %d", q, v, got, e, want, f)
	}
	l, e := Decode(q, s)
	if want, f := modelDecode(q, s); !slices.Equal(l, want) || e != f {
		t.Fatalf("Decode(%v, %q) = %v, %d, want %v, %d", q, s, l, e, want, f)
	}
	if l, want := Error(q), modelError(q); !slices.Equal(l, want) {
		t.Fatalf("Error(%v) = %v, want %v", q, l, want)
	}
	hits, e := Search(metric, q, v, items, budget)
	if want, f := modelSearch(metric, q, v, items, budget); !slices.Equal(hits, want) || e != f {
		t.Fatalf("Search(%d, %v, %v, %v, %d) = %v, %d, want %v, %d", metric, q, v, items, budget, hits, e, want, f)
	}
}

func TestAllSmallSpans(t *testing.T) { // 17.2: all spans and numbers of a few, and every byte
	for low := -9; low <= 9; low++ {
		for high := -9; high <= 9; high++ {
			for x := -11; x <= 11; x++ {
				q := of(low, high)
				alikeModel(t, q, []int{x}, string([]byte{byte(x * 11)}), api.MetricL2, []api.Item{item(1, x), item(2, -x)}, 1)
			}
			for c := range 256 {
				l, e := Decode(of(low, high), string([]byte{byte(c)}))
				if want, f := modelDecode(of(low, high), string([]byte{byte(c)})); !slices.Equal(l, want) || e != f {
					t.Fatalf("Decode(%d to %d, %d) = %v, %d, want %v, %d", low, high, c, l, e, want, f)
				}
			}
		}
	}
}

func TestAllSmallTrain(t *testing.T) { // 17.1: all rows of up to three vectors of up to two numbers of a few
	numbers := []int{-1, 0, 2, 32768}
	vectors := [][]int{nil}
	for _, x := range numbers {
		vectors = append(vectors, []int{x})
		for _, y := range numbers {
			vectors = append(vectors, []int{x, y})
		}
	}
	rows := [][][]int{nil}
	for from := 0; len(rows[from]) < 3; from++ {
		for _, v := range vectors {
			rows = append(rows, append(slices.Clone(rows[from]), v))
		}
	}
	for _, l := range rows {
		q, e := Train(l)
		if want, f := modelTrain(l); !same(q, want) || e != f {
			t.Fatalf("Train(%v) = %v, %d, want %v, %d", l, q, e, want, f)
		}
	}
}

// drawer draws what calls are given; mostly what may be.
type drawer struct{ *rand.Rand }

// number draws from a span that its step says, and seldom what is no component.
func (d drawer) number(step int) int {
	if d.IntN(400) == 0 {
		return outside()[d.IntN(len(outside()))]
	}
	spans := []int{2, 9, 300, 5000, 32768}
	return d.IntN(2*spans[step]) - spans[step]
}

func (d drawer) vector(dim, step int) []int {
	if d.IntN(150) == 0 {
		dim += d.IntN(3) - 1
	}
	v := make([]int, dim)
	for i := range v {
		v[i] = d.number(step)
	}
	return v
}

func (d drawer) items(n, dim, step int) []api.Item {
	l := make([]api.Item, n)
	for i := range l {
		l[i] = api.Item{Id: d.IntN(1 + 2*n), V: d.vector(dim, step)}
	}
	return l
}

// quantizer learns from some items, or draws one that mostly may be.
func (d drawer) quantizer(dim, step int, items []api.Item) api.Scalar {
	var l [][]int
	for _, item := range items[:d.IntN(len(items)+1)] {
		l = append(l, item.V)
	}
	if q, e := Train(l); e == api.OK {
		return q
	}
	q := api.Scalar{Low: d.vector(dim, step), High: d.vector(dim, step)}
	for i := range min(len(q.Low), len(q.High)) {
		if q.Low[i] > q.High[i] && d.IntN(100) > 0 {
			q.Low[i], q.High[i] = q.High[i], q.Low[i]
		}
	}
	return q
}

func TestDrawn(t *testing.T) { // 17.1 to 17.4: against the model
	d := drawer{rand.New(rand.NewPCG(17, 1))}
	refused, whole := 0, 0
	for range 12000 {
		dim, step := 1+d.IntN(4), d.IntN(5)
		items := d.items(d.IntN(12), dim, step)
		q, v, metric := d.quantizer(dim, step, items), d.vector(dim, step), 1+d.IntN(3)
		codes := make([]byte, dim)
		for i := range codes {
			codes[i] = byte(d.IntN(256))
		}
		budget := d.IntN(15) - 1
		alikeModel(t, q, v, string(codes), metric, items, budget)
		hits, e := Search(metric, q, v, items, budget)
		if e != api.OK {
			refused++
		} else if budget >= len(items) { // 17.4
			whole++
			alikeTrue(t, metric, v, items, hits)
		}
	}
	if refused < 500 || whole < 1000 {
		t.Errorf("%d refused, %d whole", refused, whole)
	}
}

// alikeTrue wants hits to be Sort of all true hits.
func alikeTrue(t *testing.T, metric int, v []int, items []api.Item, hits []api.Hit) {
	t.Helper()
	var all []api.Hit
	for _, item := range items {
		score, _ := vector.Score(metric, v, item.V)
		all = append(all, api.Hit{Id: item.Id, Score: score})
	}
	if want := topk.Sort(metric, all); !slices.Equal(hits, want) {
		t.Fatalf("by %d of all of %v: %v, want %v", metric, items, hits, want)
	}
}

func TestDrawnTrain(t *testing.T) { // 17.1, 17.4: what was seen comes back within Error
	d := drawer{rand.New(rand.NewPCG(17, 2))}
	for range 3000 {
		dim, step := 1+d.IntN(64), d.IntN(5)
		var l [][]int
		for range 1 + d.IntN(6) {
			l = append(l, d.vector(dim, step))
		}
		q, e := Train(l)
		want, f := modelTrain(l)
		if !same(q, want) || e != f {
			t.Fatalf("Train(%v) = %v, %d, want %v, %d", l, q, e, want, f)
		}
		if e != api.OK {
			continue
		}
		most := Error(q)
		for _, v := range l {
			s, _ := Encode(q, v)
			w, e := Decode(q, s)
			if e != api.OK || len(w) != len(v) || len(most) != len(v) {
				t.Fatalf("of %v: %v became %v, %d", q, v, w, e)
			}
			for i := range v {
				if w[i]-v[i] > most[i] || v[i]-w[i] > most[i] {
					t.Fatalf("of %v: %v became %v", q, v, w)
				}
			}
		}
	}
}
