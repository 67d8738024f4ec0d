package stats

import (
	"math/big"
	"math/rand/v2"
	"slices"
	"testing"

	"lodestar/api"
	"lodestar/num"
)

// laid are the numbers of l with n ahead of the first that is greater.
func laid(l []int, n int) []int {
	at := 0
	for at < len(l) && l[at] <= n {
		at++
	}
	return slices.Insert(l, at, n)
}

// modelBuckets picks of each bucket i the places p with i n < (p + 1) b and (p + 1) b <= (i + 1) n: those from i n / b up to the one ahead of (i + 1) n / b, without a quotient.
func modelBuckets(values []int, buckets int) []api.Bucket {
	var sorted []int
	for _, v := range values {
		sorted = laid(sorted, v)
	}
	n, b := len(values), 1
	for b < n && b < buckets {
		b++
	}
	var l []api.Bucket
	for i := 0; i < b && n > 0; i++ {
		var made api.Bucket
		unlike := map[int]int{}
		for p, v := range sorted {
			if i*n >= (p+1)*b || (p+1)*b > (i+1)*n {
				continue
			}
			if made.Count == 0 {
				made.Low = v
			}
			made.High = v
			made.Count++
			unlike[v]++
		}
		made.Kinds = len(unlike)
		l = append(l, made)
	}
	return l
}

// modelWords picks the least hash that is left, and counts the words that have it.
func modelWords(words []string) []api.Entry {
	left := slices.Clone(words)
	var l []api.Entry
	for len(left) > 0 {
		least := num.Hash(left[0])
		for _, w := range left {
			if h := num.Hash(w); h < least {
				least = h
			}
		}
		var others []string
		for _, w := range left {
			if num.Hash(w) != least {
				others = append(others, w)
			}
		}
		l = append(l, api.Entry{N: len(left) - len(others), Id: least})
		left = others
	}
	return l
}

// whole is n as a number without an end.
func whole(n int) *big.Int { return big.NewInt(int64(n)) }

// spread is how many numbers there are from low to high, however many.
func spread(low, high int) *big.Int {
	n := new(big.Int).Sub(whole(high), whole(low))
	return n.Add(n, whole(1))
}

// modelShare is what a bucket gives to the estimate that it does not lie whole in, by the words of 15.2.
func modelShare(b api.Bucket, low, high int) int {
	if low < b.Low {
		low = b.Low
	}
	if high > b.High {
		high = b.High
	}
	part, all := spread(low, high), spread(b.Low, b.High)
	product := new(big.Int).Mul(whole(b.Count), part)
	if !part.IsInt64() || !all.IsInt64() || !product.IsInt64() {
		return b.Count / 2
	}
	return int(product.Div(product, all).Int64())
}

// modelBetween goes through the buckets three times, of each sum once.
func modelBetween(l []api.Bucket, low, high int) (int, int, int) {
	if low > high {
		return 0, 0, 0
	}
	least, most, beside := 0, 0, 0
	lies := func(b api.Bucket) bool { return b.Low <= b.High && b.Count >= 0 && b.Low >= low && b.High <= high }
	meets := func(b api.Bucket) bool { return b.Low <= b.High && b.Count >= 0 && b.Low <= high && b.High >= low }
	for _, b := range l {
		if lies(b) {
			least += b.Count
		}
	}
	for _, b := range l {
		if meets(b) {
			most += b.Count
		}
	}
	for _, b := range l {
		if meets(b) && !lies(b) {
			beside += modelShare(b, low, high)
		}
	}
	return least, least + beside, most
}

// modelAnd works in numbers without an end, by the words of 15.3.
func modelAnd(total int, l []int) int {
	if total <= 0 {
		return 0
	}
	n := whole(total)
	for _, of := range l {
		if of < 0 {
			of = 0
		}
		if of > total {
			of = total
		}
		product := new(big.Int).Mul(n, whole(of))
		if product.IsInt64() {
			n = product.Div(product, whole(total))
		} else {
			n = new(big.Int).Div(n, whole(total))
			n.Mul(n, whole(of))
		}
	}
	return int(n.Int64())
}

// modelOr takes the difference first, which may leave an int, and lets And see how it counts.
func modelOr(total int, l []int) int {
	if total < 0 {
		total = 0
	}
	var less []int
	for _, of := range l {
		n := new(big.Int).Sub(whole(total), whole(of))
		switch {
		case n.Sign() < 0:
			less = append(less, -1)
		case !n.IsInt64():
			less = append(less, total)
		default:
			less = append(less, int(n.Int64()))
		}
	}
	return total - modelAnd(total, less)
}

// built wants s to be what is told of the values and words.
func built(t *testing.T, s api.Stats, values []int, words []string, buckets int) {
	t.Helper()
	l, e := modelBuckets(values, buckets), modelWords(words)
	if s.Count != len(values)+len(words) || !slices.Equal(s.Buckets, l) || !slices.Equal(s.Words, e) {
		t.Fatalf("of %v, %q in %d: %v, want %v, %v", values, words, buckets, s, l, e)
	}
}

// asked wants Between of s to be the model's, between any two of the points.
func asked(t *testing.T, s api.Stats, points []int) {
	t.Helper()
	for _, low := range points {
		for _, high := range points {
			a, b, c := Between(s, low, high)
			if x, y, z := modelBetween(s.Buckets, low, high); a != x || b != y || c != z {
				t.Fatalf("Between(%v, %d, %d) = %d, %d, %d, want %d, %d, %d", s.Buckets, low, high, a, b, c, x, y, z)
			}
		}
	}
}

// bounded wants the least, the estimate and the most to be as 15.4 says of what Build gives.
func bounded(t *testing.T, s api.Stats, values []int, points []int) {
	t.Helper()
	for _, low := range points {
		for _, high := range points {
			there := 0
			for _, v := range values {
				if low <= v && v <= high {
					there++
				}
			}
			least, estimate, most := Between(s, low, high)
			if least > there || there > most || least > estimate || estimate > most {
				t.Fatalf("Between(%v, %d, %d) = %d, %d, %d, and %d lie there", s.Buckets, low, high, least, estimate, most, there)
			}
		}
	}
	n := 0
	for _, b := range s.Buckets {
		n += b.Count
	}
	if n != len(values) {
		t.Fatalf("the buckets %v have %d of %d values", s.Buckets, n, len(values))
	}
}

// rowsOf calls do with each row of up to most of the parts.
func rowsOf[T any](parts []T, most int, do func([]T)) {
	var from func(row []T)
	from = func(row []T) {
		do(slices.Clone(row))
		if len(row) == most {
			return
		}
		for _, p := range parts {
			from(append(row, p))
		}
	}
	from(nil)
}

func TestAllRows(t *testing.T) { // 15.1, 15.2, 15.4: all rows of a few values, in any number of buckets
	points := []int{-1, 0, 1, 2, 3, 4, 5, 6}
	rowsOf([]int{0, 1, 2, 5}, 6, func(values []int) {
		for buckets := range len(values) + 2 {
			s := Build(values, nil, buckets)
			built(t, s, values, nil, buckets)
			asked(t, s, points)
			bounded(t, s, values, points)
		}
	})
}

func TestAllRowsOfWords(t *testing.T) { // 15.1, 15.3, 15.4: of two words with one hash, too
	rowsOf([]string{alike, alikeToo, "", "b"}, 6, func(words []string) {
		s := Build(nil, words, 4)
		built(t, s, nil, words, 4)
		for _, w := range []string{alike, alikeToo, "", "b", "c"} {
			n, just := 0, 0
			for _, v := range words {
				if num.Hash(v) == num.Hash(w) {
					n++
				}
				if v == w {
					just++
				}
			}
			if got := Word(s, w); got != n || got < just {
				t.Fatalf("of %q: Word(%q) = %d, want %d", words, w, got, n)
			}
		}
	})
}

func TestAllBuckets(t *testing.T) { // 15.2: all rows of a few buckets, as no Build gives them
	var few []api.Bucket
	for _, ends := range [][2]int{{0, 0}, {0, 3}, {2, 6}, {4, 2}} {
		for _, count := range []int{-3, 0, 1, 10} {
			few = append(few, api.Bucket{Low: ends[0], High: ends[1], Count: count})
		}
	}
	rowsOf(few, 3, func(l []api.Bucket) {
		asked(t, api.Stats{Buckets: l}, []int{-1, 0, 1, 2, 3, 4, 7})
	})
}

func TestAllAnds(t *testing.T) { // 15.3, 15.4: all rows of a few numbers, of small totals
	for total := -2; total <= 12; total++ {
		rowsOf([]int{-1, 0, 1, 3, 5, 7, 12, 13}, 4, func(l []int) { joined(t, total, l) })
	}
}

// joined wants And and Or to be the model's, and as 15.4 says.
func joined(t *testing.T, total int, l []int) {
	t.Helper()
	both, one := And(total, l), Or(total, l)
	if both != modelAnd(total, l) || one != modelOr(total, l) {
		t.Fatalf("of %d, %v: And %d, Or %d, want %d, %d", total, l, both, one, modelAnd(total, l), modelOr(total, l))
	}
	counts := max(total, 0)
	if both < 0 || both > counts || one < 0 || one > counts {
		t.Fatalf("of %d, %v: And %d, Or %d", total, l, both, one)
	}
	for _, of := range l {
		of = min(max(of, 0), counts)
		if both > of || one < of {
			t.Fatalf("of %d, %v: And %d, Or %d, beside %d", total, l, both, one, of)
		}
	}
}

// edges are numbers at the ends of an int, of its half, of its root, and around 0.
func edges() []int {
	var l []int
	for _, n := range []int{-1 << 63, -1 << 62, -1 << 32, -1 << 31, 0, 1 << 31, 3037000499, 1 << 32, 1 << 52, 1 << 62, 1<<63 - 1} {
		l = append(l, n-1, n, n+1)
	}
	slices.Sort(l)
	return slices.Compact(l)
}

// drawnInt is a number of any size, often near an edge.
func drawnInt(d *rand.Rand) int {
	switch d.IntN(3) {
	case 0:
		return d.IntN(21) - 10
	case 1:
		l := edges()
		return l[d.IntN(len(l))] + d.IntN(5) - 2
	}
	return int(d.Uint64()) >> d.IntN(64)
}

func TestAndAndOrDrawn(t *testing.T) { // 15.3, 15.4
	for seed := range uint64(20000) {
		d := rand.New(rand.NewPCG(seed, 151))
		l := make([]int, d.IntN(6))
		for i := range l {
			l[i] = drawnInt(d)
		}
		joined(t, drawnInt(d), l)
	}
	for _, total := range edges() {
		rowsOf(edges(), 2, func(l []int) { joined(t, total, l) })
	}
}

func TestBuiltDrawn(t *testing.T) { // 15.1, 15.2, 15.4
	for seed := range uint64(1500) {
		d := rand.New(rand.NewPCG(seed, 152))
		values, words, near := make([]int, d.IntN(40)), make([]string, d.IntN(10)), d.IntN(2) == 0
		for i := range values {
			values[i] = drawnInt(d)
			if near {
				values[i] = d.IntN(30) - 15
			}
		}
		for i := range words {
			words[i] = []string{"", "a", "b", "ab", "\xff", alike, alikeToo}[d.IntN(7)]
		}
		points := []int{drawnInt(d), drawnInt(d), d.IntN(40) - 20, d.IntN(40) - 20}
		for range min(len(values), 4) {
			points = append(points, values[d.IntN(len(values))])
		}
		for _, buckets := range []int{drawnInt(d), d.IntN(45), 16} {
			s := Build(values, words, buckets)
			built(t, s, values, words, buckets)
			asked(t, s, points)
			bounded(t, s, values, points)
		}
	}
}

func TestBucketsDrawn(t *testing.T) { // 15.2: buckets of any kind, whose Counts stay within an int together
	for seed := range uint64(4000) {
		d := rand.New(rand.NewPCG(seed, 153))
		l, points := make([]api.Bucket, d.IntN(6)), []int{drawnInt(d), drawnInt(d)}
		for i := range l {
			l[i] = api.Bucket{Low: drawnInt(d), High: drawnInt(d), Count: drawnInt(d), Kinds: drawnInt(d)}
			if l[i].Count > 0 {
				l[i].Count /= len(l)
			}
			points = append(points, l[i].Low, l[i].High)
		}
		asked(t, api.Stats{Buckets: l}, points)
	}
	for _, low := range edges() {
		for _, high := range edges() {
			for _, count := range edges() {
				asked(t, api.Stats{Buckets: []api.Bucket{{Low: low, High: high, Count: count}}}, []int{-1 << 63, -7, 1, 1 << 61, 1<<63 - 1})
			}
		}
	}
}
