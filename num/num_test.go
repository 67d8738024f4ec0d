package num

import (
	"math"
	"math/big"
	"testing"

	"lodestar/api"
)

// The face of the chapter: each call with its exact signature.
var (
	_ func(int) int                         = Isqrt
	_ func(int, int) (int, api.Errno)       = Mul
	_ func(int, int) (int, api.Errno)       = Div
	_ func(uint64, int) (string, api.Errno) = Fix
	_ func(string) (uint64, api.Errno)      = Unfix
	_ func(string) uint32                   = Sum
	_ func(string) int                      = Hash
	_ func(uint64) (uint64, uint64)         = Draw
	_ func(uint64, int) (int, uint64)       = Below
)

// edgeInts are the numbers about which roots, products and quotients turn.
func edgeInts() []int {
	l := []int{math.MinInt, math.MinInt + 1, math.MinInt / 2, math.MaxInt / 2, math.MaxInt - 1, math.MaxInt, 3037000499, 3037000500, -3037000499, -3037000500}
	for i := -20; i <= 20; i++ {
		l = append(l, i)
	}
	for shift := 5; shift < 63; shift++ {
		for near := -1; near <= 1; near++ {
			l = append(l, 1<<shift+near, -(1<<shift)+near)
		}
	}
	return l
}

// drawnInts are numbers of all sizes and both signs.
func drawnInts(count int) []int {
	var l []int
	seed := uint64(1)
	for i := range count {
		z, next := Draw(seed)
		seed = next
		l = append(l, int(z)>>(i%64))
	}
	return l
}

// whole answers n as an int; false, if it is none.
func whole(n *big.Int) (int, bool) {
	if !n.IsInt64() {
		return 0, false
	}
	return int(n.Int64()), true
}

func TestIsqrtSmall(t *testing.T) { // 1.1
	r := 0
	for n := range 100000 {
		if (r+1)*(r+1) <= n {
			r++
		}
		if got := Isqrt(n); got != r {
			t.Fatalf("Isqrt(%d) = %d, want %d", n, got, r)
		}
	}
}

func TestIsqrtFixed(t *testing.T) { // 1.1
	for _, x := range []struct{ n, r int }{
		{math.MinInt, 0}, {-4, 0}, {-1, 0}, {0, 0}, {1, 1}, {2, 1}, {3, 1}, {4, 2}, {8, 2}, {9, 3},
		{24, 4}, {25, 5}, {1 << 52, 1 << 26}, {1<<62 - 1, 1<<31 - 1}, {1 << 62, 1 << 31},
		{3037000499 * 3037000499, 3037000499}, {3037000499*3037000499 - 1, 3037000498},
		{math.MaxInt - 1, 3037000499}, {math.MaxInt, 3037000499},
	} {
		if r := Isqrt(x.n); r != x.r {
			t.Errorf("Isqrt(%d) = %d, want %d", x.n, r, x.r)
		}
	}
}

func TestIsqrtAgainstBig(t *testing.T) { // 1.1
	for _, n := range append(edgeInts(), drawnInts(2000)...) {
		want := 0
		if n > 0 {
			want = int(new(big.Int).Sqrt(big.NewInt(int64(n))).Int64())
		}
		if r := Isqrt(n); r != want {
			t.Errorf("Isqrt(%d) = %d, want %d", n, r, want)
		}
	}
}

func TestIsqrtOfSquares(t *testing.T) { // 1.5: and where the root steps up
	roots := []int{1, 2, 3, 46340, 46341, 65535, 65536, 1<<31 - 1, 1 << 31, 3037000498, 3037000499}
	for _, n := range drawnInts(2000) {
		roots = append(roots, n&(1<<31-1))
	}
	for _, r := range roots {
		if got := Isqrt(r * r); got != r {
			t.Errorf("Isqrt(%d * %d) = %d", r, r, got)
		}
		if r > 0 && Isqrt(r*r-1) != r-1 {
			t.Errorf("Isqrt(%d * %d - 1) = %d", r, r, Isqrt(r*r-1))
		}
	}
}

func TestMulFixed(t *testing.T) { // 1.1
	for _, x := range []struct {
		a, b, p int
		e       api.Errno
	}{
		{0, 0, 0, api.OK}, {0, math.MinInt, 0, api.OK}, {math.MaxInt, 0, 0, api.OK},
		{6, 7, 42, api.OK}, {-6, 7, -42, api.OK}, {6, -7, -42, api.OK}, {-6, -7, 42, api.OK},
		{1, math.MinInt, math.MinInt, api.OK}, {math.MinInt, 1, math.MinInt, api.OK},
		{-1, math.MaxInt, -math.MaxInt, api.OK}, {math.MaxInt, -1, -math.MaxInt, api.OK},
		{-1, math.MinInt, 0, api.ErrOver}, {math.MinInt, -1, 0, api.ErrOver},
		{math.MinInt, math.MinInt, 0, api.ErrOver}, {math.MaxInt, math.MaxInt, 0, api.ErrOver},
		{1 << 40, 1 << 40, 0, api.ErrOver}, {1 << 32, 1 << 32, 0, api.ErrOver},
		{1 << 31, 1 << 31, 1 << 62, api.OK}, {1 << 31, 1 << 32, 0, api.ErrOver},
		{1 << 31, -(1 << 32), math.MinInt, api.OK}, {-(1 << 32), 1 << 31, math.MinInt, api.OK},
		{-(1 << 31), -(1 << 32), 0, api.ErrOver},
		{3037000499, 3037000499, 9223372030926249001, api.OK}, {3037000500, 3037000500, 0, api.ErrOver},
		{math.MaxInt/2 + 1, 2, 0, api.ErrOver}, {math.MaxInt / 2, 2, math.MaxInt - 1, api.OK},
	} {
		if p, e := Mul(x.a, x.b); p != x.p || e != x.e {
			t.Errorf("Mul(%d, %d) = %d, %d, want %d, %d", x.a, x.b, p, e, x.p, x.e)
		}
	}
}

func checkMul(t *testing.T, a, b int) {
	want, ok := whole(new(big.Int).Mul(big.NewInt(int64(a)), big.NewInt(int64(b))))
	err := api.OK
	if !ok {
		err = api.ErrOver
	}
	if p, e := Mul(a, b); p != want || e != err {
		t.Errorf("Mul(%d, %d) = %d, %d, want %d, %d", a, b, p, e, want, err)
	}
}

// floored answers the quotient downwards, by big numbers.
func floored(a, b int) *big.Int {
	q, m := new(big.Int).DivMod(big.NewInt(int64(a)), big.NewInt(int64(b)), new(big.Int))
	if b < 0 && m.Sign() != 0 { // DivMod's rest is never below 0
		q.Sub(q, big.NewInt(1))
	}
	return q
}

func checkDiv(t *testing.T, a, b int) {
	want, err := 0, api.ErrArg
	if b != 0 {
		n, ok := whole(floored(a, b))
		want, err = n, api.OK
		if !ok {
			err = api.ErrOver
		}
	}
	if q, e := Div(a, b); q != want || e != err {
		t.Errorf("Div(%d, %d) = %d, %d, want %d, %d", a, b, q, e, want, err)
	}
}

func TestMulAndDivAgainstBig(t *testing.T) { // 1.1
	l := edgeInts()
	for _, a := range l {
		for _, b := range l {
			checkMul(t, a, b)
			checkDiv(t, a, b)
		}
	}
	drawn := drawnInts(5000)
	for i, a := range drawn {
		b := drawn[len(drawn)-1-i]
		checkMul(t, a, b)
		checkDiv(t, a, b)
	}
}

func TestDivFixed(t *testing.T) { // 1.1
	for _, x := range []struct {
		a, b, q int
		e       api.Errno
	}{
		{7, 2, 3, api.OK}, {-7, 2, -4, api.OK}, {7, -2, -4, api.OK}, {-7, -2, 3, api.OK},
		{6, 2, 3, api.OK}, {-6, 2, -3, api.OK}, {6, -2, -3, api.OK}, {-6, -2, 3, api.OK},
		{0, 5, 0, api.OK}, {0, -5, 0, api.OK}, {1, 5, 0, api.OK}, {-1, 5, -1, api.OK}, {1, -5, -1, api.OK}, {-1, -5, 0, api.OK},
		{1, 0, 0, api.ErrArg}, {0, 0, 0, api.ErrArg}, {math.MinInt, 0, 0, api.ErrArg},
		{math.MinInt, -1, 0, api.ErrOver}, {math.MinInt, 1, math.MinInt, api.OK}, {math.MaxInt, -1, -math.MaxInt, api.OK},
		{math.MinInt, math.MinInt, 1, api.OK}, {math.MinInt, math.MaxInt, -2, api.OK}, {math.MaxInt, math.MinInt, -1, api.OK},
		{math.MinInt + 1, -1, math.MaxInt, api.OK}, {math.MinInt, 2, math.MinInt / 2, api.OK}, {math.MinInt, -2, 1 << 62, api.OK},
	} {
		if q, e := Div(x.a, x.b); q != x.q || e != x.e {
			t.Errorf("Div(%d, %d) = %d, %d, want %d, %d", x.a, x.b, q, e, x.q, x.e)
		}
	}
}

func TestDivLeaves(t *testing.T) { // 1.5: what is left lies from 0 up to b without it, or from 0 down to it
	for a := -200; a <= 200; a++ {
		for b := -30; b <= 30; b++ {
			if b == 0 {
				continue
			}
			q, e := Div(a, b)
			left := a - q*b
			if e != api.OK || b > 0 && (left < 0 || left >= b) || b < 0 && (left > 0 || left <= b) {
				t.Errorf("Div(%d, %d) = %d, %d leaves %d", a, b, q, e, left)
			}
		}
	}
}
