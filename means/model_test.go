package means

import (
	"math"
	"math/big"
	"math/rand/v2"
	"slices"
	"testing"

	"lodestar/api"
	"lodestar/num"
)

// modelVector tells whether v is a vector, by the words of chapter 6.
func modelVector(v []int) bool {
	return len(v) >= 1 && len(v) <= 64 && !slices.ContainsFunc(v, func(n int) bool { return n < -32768 || n > 32767 })
}

func modelLearnable(l [][]int) bool {
	for _, v := range l {
		if !modelVector(v) || len(v) != len(l[0]) {
			return false
		}
	}
	return len(l) > 0
}

func modelL2(a, b []int) int {
	if !modelVector(a) || !modelVector(b) || len(a) != len(b) {
		return 0
	}
	sum := 0
	for i := range a {
		sum += a[i]*a[i] + b[i]*b[i] - 2*a[i]*b[i]
	}
	return sum
}

// modelNearest goes from the last one on, so that of several the first stays.
func modelNearest(v []int, centroids [][]int) int {
	at := -1
	for i := len(centroids) - 1; i >= 0; i-- {
		if at < 0 || modelL2(v, centroids[i]) <= modelL2(v, centroids[at]) {
			at = i
		}
	}
	return at
}

// modelStart keeps those that are left; the first of them takes the place of that which is drawn.
func modelStart(l [][]int, k int, seed uint64) [][]int {
	left := slices.Clone(l)
	var centroids [][]int
	for len(centroids) < k && len(left) > 0 {
		z, next := num.Draw(seed)
		j := int(z % uint64(len(left)))
		centroids = append(centroids, left[j])
		left[j], left, seed = left[0], left[1:], next
	}
	return centroids
}

// modelMean is the mean of x downwards, in numbers without an end.
func modelMean(x []int) int {
	sum := new(big.Int)
	for _, n := range x {
		sum.Add(sum, big.NewInt(int64(n)))
	}
	q, _ := new(big.Int).DivMod(sum, big.NewInt(int64(len(x))), new(big.Int)) // by Euclid: downwards
	return int(q.Int64())
}

func modelStep(l, centroids [][]int) [][]int {
	if len(l) == 0 || len(centroids) == 0 || !modelLearnable(slices.Concat(l, centroids)) {
		return nil
	}
	moved := copied(centroids)
	for i := range centroids {
		for j := range l[0] {
			var column []int
			for _, v := range l {
				if modelNearest(v, centroids) == i {
					column = append(column, v[j])
				}
			}
			if len(column) > 0 {
				moved[i][j] = modelMean(column)
			}
		}
	}
	return moved
}

func modelTrain(l [][]int, k, rounds int, seed uint64) ([][]int, api.Errno) {
	if !modelLearnable(l) || k <= 0 {
		return nil, api.ErrTrain
	}
	centroids := modelStart(l, k, seed)
	for i := 0; i < rounds && i < 64; i++ {
		centroids = modelStep(l, centroids)
	}
	return centroids, api.OK
}

func modelLoss(l, centroids [][]int) int {
	sum := 0
	for _, v := range l {
		if i := modelNearest(v, centroids); i >= 0 {
			sum += modelL2(v, centroids[i])
		}
	}
	return sum
}

// alikeModel holds all calls against the model.
func alikeModel(t *testing.T, v []int, l, centroids [][]int, k, rounds int, seed uint64) {
	t.Helper()
	if n, want := Nearest(v, centroids), modelNearest(v, centroids); n != want {
		t.Fatalf("Nearest(%v, %v) = %d, want %d", v, centroids, n, want)
	}
	if got, want := Start(l, k, seed), modelStart(l, k, seed); !same(got, want) {
		t.Fatalf("Start(%v, %d, %d) = %v, want %v", l, k, seed, got, want)
	}
	if got, want := Step(l, centroids), modelStep(l, centroids); !same(got, want) {
		t.Fatalf("Step(%v, %v) = %v, want %v", l, centroids, got, want)
	}
	got, e := Train(l, k, rounds, seed)
	if want, f := modelTrain(l, k, rounds, seed); !same(got, want) || e != f {
		t.Fatalf("Train(%v, %d, %d, %d) = %v, %d, want %v, %d", l, k, rounds, seed, got, e, want, f)
	}
	if n, want := Loss(l, centroids), modelLoss(l, centroids); n != want {
		t.Fatalf("Loss(%v, %v) = %d, want %d", l, centroids, n, want)
	}
}

// rowsOf are all rows of up to most of vectors.
func rowsOf(most int, vectors [][]int) [][][]int {
	rows := [][][]int{nil}
	for from := 0; len(rows[from]) < most; from++ {
		for _, v := range vectors {
			rows = append(rows, append(slices.Clone(rows[from]), v))
		}
	}
	return rows
}

func TestAllSmall(t *testing.T) { // 18.1 to 18.4: all rows and centroids of a few numbers
	rows := rowsOf(3, ones(-2, -1, 0, 1, 3, 6))
	for i, l := range rows {
		for j, centroids := range rows {
			alikeModel(t, []int{i%9 - 3}, l, centroids, i%5, j%4, uint64(j))
		}
	}
}

func TestAllSmallOfAny(t *testing.T) { // 18.1 to 18.4: all rows and centroids of a few vectors, and what is none
	rows := rowsOf(2, [][]int{nil, {0}, {2}, {-32769}, {0, 0}, {1, -1}, {2, 32768}})
	for i, l := range rows {
		for j, centroids := range rows {
			for _, v := range [][]int{nil, {1}, {1, 1}, {1, 40000}} {
				alikeModel(t, v, l, centroids, (i+j)%4, j%3, uint64(i))
			}
		}
	}
}

// drawer draws what calls are given; mostly what may be.
type drawer struct{ *rand.Rand }

// number draws from a span that its step says, and seldom what is no component.
func (d drawer) number(step int) int {
	if d.IntN(1500) == 0 {
		return outside()[d.IntN(len(outside()))]
	}
	spans := []int{1, 2, 9, 300, 32768}
	return d.IntN(2*spans[step]) - spans[step]
}

func (d drawer) vector(dim, step int) []int {
	if d.IntN(300) == 0 {
		dim += d.IntN(3) - 1
	}
	v := make([]int, dim)
	for i := range v {
		v[i] = d.number(step)
	}
	return v
}

func (d drawer) rows(n, dim, step int) [][]int {
	l := make([][]int, n)
	for i := range l {
		l[i] = d.vector(dim, step)
	}
	return l
}

func TestDrawn(t *testing.T) { // 18.1 to 18.4: against the model
	d := drawer{rand.New(rand.NewPCG(18, 1))}
	refused, long := 0, 0
	for range 4000 {
		dim, step := 1+d.IntN(4), d.IntN(5)
		if d.IntN(20) == 0 {
			dim = 63 + d.IntN(2)
		}
		l, centroids := d.rows(d.IntN(25), dim, step), d.rows(d.IntN(7), dim, step)
		k, rounds, seed := d.IntN(9)-1, d.IntN(9)-1, d.Uint64()
		if d.IntN(50) == 0 {
			k, rounds = []int{math.MinInt, math.MaxInt}[d.IntN(2)], []int{math.MinInt, 63, 64, 65, math.MaxInt}[d.IntN(5)]
		}
		alikeModel(t, d.vector(dim, step), l, centroids, k, rounds, seed)
		if _, e := Train(l, k, rounds, seed); e != api.OK {
			refused++
		} else if rounds > 2 && k > 1 && k < len(l) {
			long++
		}
	}
	if refused < 400 || long < 800 {
		t.Errorf("%d refused, %d long", refused, long)
	}
}

func TestDrawnFollows(t *testing.T) { // 18.5
	d := drawer{rand.New(rand.NewPCG(18, 2))}
	moved, stayed := 0, 0
	for range 2000 {
		dim, step := 1+d.IntN(3), d.IntN(5)
		l, centroids := d.rows(1+d.IntN(12), dim, step), d.rows(1+d.IntN(5), dim, step)
		if !modelLearnable(slices.Concat(l, centroids)) {
			continue
		}
		belong := make([][][]int, len(centroids))
		for _, v := range l {
			n := Nearest(v, centroids)
			for _, c := range centroids {
				if modelL2(v, c) < modelL2(v, centroids[n]) {
					t.Fatalf("Nearest(%v, %v) = %d", v, centroids, n)
				}
			}
			belong[n] = append(belong[n], v)
		}
		for i, c := range Step(l, centroids) {
			if len(belong[i]) == 0 {
				stayed++
				if !slices.Equal(c, centroids[i]) {
					t.Fatalf("Step(%v, %v): %d became %v", l, centroids, i, c)
				}
				continue
			}
			moved++
			alikeBetween(t, c, belong[i])
		}
	}
	if moved < 1000 || stayed < 500 {
		t.Errorf("%d moved, %d stayed", moved, stayed)
	}
}

// alikeBetween wants c to lie, in each component, between the least and the greatest of its rows.
func alikeBetween(t *testing.T, c []int, rows [][]int) {
	t.Helper()
	for j, x := range c {
		var column []int
		for _, v := range rows {
			column = append(column, v[j])
		}
		if x < slices.Min(column) || x > slices.Max(column) {
			t.Fatalf("%v of %v", c, rows)
		}
	}
}

func TestDrawnPlaces(t *testing.T) { // 18.2, 18.5: at unlike places, each of them at times
	d := drawer{rand.New(rand.NewPCG(18, 3))}
	var seen [9][9]int
	for range 5000 {
		k := 1 + d.IntN(9)
		l := Start(counted(9, 1), k, d.Uint64())
		places := map[int]int{}
		for i, v := range l {
			places[v[0]]++
			seen[i][v[0]]++
		}
		if len(l) != k || len(places) != k {
			t.Fatalf("Start of 9 rows, %d = %v", k, l)
		}
	}
	for i, counts := range seen {
		for place, n := range counts {
			if n == 0 {
				t.Errorf("place %d is never the %d-th", place, i)
			}
		}
	}
}
