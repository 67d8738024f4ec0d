package vector

import (
	"math/big"
	"math/rand/v2"
	"testing"

	"lodestar/api"
)

// A model that goes another way: great numbers, the library's roots, and fractions cut down.

// modelVector tells whether v is a vector.
func modelVector(v []int) bool {
	for _, n := range v {
		if int(int16(n)) != n {
			return false
		}
	}
	return len(v) > 0 && len(v) < 65
}

// modelCheck is what Check is to answer.
func modelCheck(v []int, dim, metric int) api.Errno {
	seen := map[int]bool{}
	for _, n := range v {
		seen[n] = true
	}
	switch {
	case !modelVector(v), len(v) != dim, metric < 1, metric > 3, metric == 3 && len(seen) == 1 && seen[0]:
		return api.ErrVector
	}
	return api.OK
}

// modelSum is the sum of what one makes of each pair.
func modelSum(a, b []int, one func(x, y *big.Int) *big.Int) *big.Int {
	sum := new(big.Int)
	for i := range a {
		sum.Add(sum, one(big.NewInt(int64(a[i])), big.NewInt(int64(b[i]))))
	}
	return sum
}

func modelDot(a, b []int) *big.Int {
	return modelSum(a, b, func(x, y *big.Int) *big.Int { return new(big.Int).Mul(x, y) })
}

func modelL2(a, b []int) *big.Int {
	return modelSum(a, b, func(x, y *big.Int) *big.Int {
		return new(big.Int).Exp(new(big.Int).Sub(x, y), big.NewInt(2), nil)
	})
}

func modelCos(a, b []int) *big.Int {
	roots := new(big.Int).Mul(new(big.Int).Sqrt(modelDot(a, a)), new(big.Int).Sqrt(modelDot(b, b)))
	if roots.Sign() == 0 {
		return roots
	}
	x := new(big.Rat).SetFrac(new(big.Int).Lsh(modelDot(a, b), 20), roots)
	// Euclid's quotient by what is above 0 is the one downwards.
	return new(big.Int).Div(x.Num(), x.Denom())
}

// modelScores are what L2, Dot and Cos are to answer.
func modelScores(a, b []int) [3]int {
	if len(a) != len(b) || !modelVector(a) || !modelVector(b) {
		return [3]int{}
	}
	return [3]int{int(modelL2(a, b).Int64()), int(modelDot(a, b).Int64()), int(modelCos(a, b).Int64())}
}

// compare wants of a and b what the model answers, by each metric and by such as are none.
func compare(t *testing.T, a, b []int) {
	t.Helper()
	want := modelScores(a, b)
	if got := [3]int{L2(a, b), Dot(a, b), Cos(a, b)}; got != want {
		t.Fatalf("L2, Dot, Cos(%v, %v) = %d, want %d", a, b, got, want)
	}
	for metric := range 5 {
		if e, f := Check(a, len(b), metric), modelCheck(a, len(b), metric); e != f {
			t.Fatalf("Check(%v, %d, %d) = %d, want %d", a, len(b), metric, e, f)
		}
		score, err := 0, api.ErrVector
		if modelCheck(a, len(a), metric) == api.OK && modelCheck(b, len(a), metric) == api.OK {
			score, err = want[metric-1], api.OK
		}
		if n, e := Score(metric, a, b); n != score || e != err {
			t.Fatalf("Score(%d, %v, %v) = %d, %d, want %d, %d", metric, a, b, n, e, score, err)
		}
	}
}

// drawn draws a row of dim components of any size that may be.
func drawn(d *rand.Rand, dim int) []int {
	v := make([]int, dim)
	size := d.IntN(17)
	for i := range v {
		if d.IntN(4) > 0 {
			v[i] = (d.IntN(1<<16) - 1<<15) >> size
		}
	}
	return v
}

// spoilt is v, with more or fewer components, or with one that may not be, or all 0.
func spoilt(d *rand.Rand, v []int) []int {
	odd := []int{32767, 32768, -32768, -32769, 65536, 1 << 32, 0, 1<<63 - 1, -1 << 63}
	switch d.IntN(5) {
	case 0:
		return v[:d.IntN(len(v)+1)]
	case 1:
		return append(v, odd[d.IntN(len(odd))])
	case 2:
		return make([]int, len(v))
	}
	return with(v, d.IntN(len(v)), odd[d.IntN(len(odd))])
}

func TestDrawnPairs(t *testing.T) { // 6.1 to 6.4
	for seed := range uint64(20000) {
		d := rand.New(rand.NewPCG(seed, 6))
		dim := 1 + d.IntN(1<<d.IntN(7))
		a, b, c := drawn(d, dim), drawn(d, dim), drawn(d, dim)
		compare(t, a, b)
		compare(t, a, a)
		follows(t, a, b)
		triangle(t, a, b, c)
	}
}

func TestSpoiltPairs(t *testing.T) { // 6.1 to 6.3
	seen := map[api.Errno]int{}
	for seed := range uint64(20000) {
		d := rand.New(rand.NewPCG(seed, 7))
		dim := 1 + d.IntN(1<<d.IntN(7))
		a, b := drawn(d, dim), drawn(d, dim)
		if d.IntN(2) == 0 {
			a = spoilt(d, a)
		} else {
			b = spoilt(d, b)
		}
		compare(t, a, b)
		compare(t, b, a)
		_, e := Score(1+d.IntN(3), a, b)
		seen[e]++
	}
	if seen[api.OK] < 500 || seen[api.ErrVector] < 500 {
		t.Errorf("answered: %v", seen)
	}
}
