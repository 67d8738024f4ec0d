package vector

import (
	"math"
	"slices"
	"testing"

	"lodestar/api"
	"lodestar/num"
)

// scored wants of a and b these three, of both ways round, and of Score the same.
func scored(t *testing.T, a, b []int, l2, dot, cos int) {
	t.Helper()
	for _, x := range [][2][]int{{a, b}, {b, a}} {
		if got := [...]int{L2(x[0], x[1]), Dot(x[0], x[1]), Cos(x[0], x[1])}; got != [...]int{l2, dot, cos} {
			t.Errorf("L2, Dot, Cos(%v, %v) = %d, want %d, %d, %d", x[0], x[1], got, l2, dot, cos)
		}
		for metric, want := range map[int]int{api.MetricL2: l2, api.MetricDot: dot, api.MetricCos: cos} {
			err := api.OK
			if metric == api.MetricCos && (zero(a) || zero(b)) {
				want, err = 0, api.ErrVector
			}
			if n, e := Score(metric, x[0], x[1]); n != want || e != err {
				t.Errorf("Score(%d, %v, %v) = %d, %d, want %d, %d", metric, x[0], x[1], n, e, want, err)
			}
		}
	}
}

func zero(v []int) bool { return slices.Equal(v, make([]int, len(v))) }

func TestScoresFixed(t *testing.T) { // 6.2, 6.3
	scored(t, []int{1, 2}, []int{4, 6}, 25, 16, 1<<20*16/(2*7))
	scored(t, []int{1, 2}, []int{3, -4}, 40, -5, -524288)
	scored(t, []int{3, 4}, []int{3, 4}, 0, 25, 1048576)
	scored(t, []int{1, 0}, []int{1, 1}, 1, 1, 1048576)
	scored(t, []int{1, 0}, []int{-1, 3}, 13, -1, -349526)
	scored(t, []int{1, 0}, []int{1, 3}, 9, 1, 349525)
	scored(t, []int{1, 1}, []int{1, 1}, 0, 2, 2097152)
	scored(t, []int{1, 1}, []int{-1, -1}, 8, -2, -2097152)
	scored(t, []int{1, 0}, []int{0, 1}, 2, 0, 0)
	scored(t, []int{5}, []int{-5}, 100, -25, -1048576)
	scored(t, []int{5}, []int{7}, 4, 35, 1048576)
	scored(t, []int{1, 2, 3}, []int{1, 2, 4}, 1, 17, 1<<20*17/(3*4))
	scored(t, []int{1, 2, 3}, []int{-1, -2, -4}, 4+16+49, -17, -1485483)
}

func TestScoresAtTheLimits(t *testing.T) { // 6.2: the greatest numbers
	scored(t, []int{-32768}, []int{32767}, 65535*65535, -32768*32767, -1<<20)
	scored(t, []int{-32768}, []int{-32768}, 0, 1<<30, 1<<20)
	scored(t, filled(64, -32768), filled(64, 32767), 64*65535*65535, -64*32768*32767, -1<<20)
	scored(t, filled(64, -32768), filled(64, -32768), 0, 1<<36, 1<<20)
	scored(t, filled(64, 32767), filled(64, 32767), 0, 64*32767*32767, 1<<20)
	scored(t, filled(64, 1), filled(64, -1), 4*64, -64, -1<<20)
	scored(t, filled(63, 1), filled(63, 1), 0, 63, 1<<20*63/49)
	for dim := 1; dim <= 64; dim++ { // each component counts, once
		for at := range dim {
			a, b := make([]int, dim), make([]int, dim)
			a[at], b[at] = 3, -4
			scored(t, a, b, 49, -12, -1<<20)
			scored(t, a, make([]int, dim), 9, 0, 0)
		}
	}
}

func TestScoresOfZero(t *testing.T) { // 6.2: a vector, too; of Cos one with a root of 0
	scored(t, []int{0}, []int{0}, 0, 0, 0)
	scored(t, []int{0, 0}, []int{1, 1}, 2, 0, 0)
	scored(t, make([]int, 64), filled(64, -32768), 1<<36, 0, 0)
}

func TestScoresOfWhatIsNoPair(t *testing.T) { // 6.2, 6.3: 0, unless both are vectors of as many components
	none := func(a, b []int) {
		t.Helper()
		if L2(a, b) != 0 || Dot(a, b) != 0 || Cos(a, b) != 0 {
			t.Errorf("L2, Dot, Cos(%.200v, %.200v) = %d, %d, %d", a, b, L2(a, b), Dot(a, b), Cos(a, b))
		}
		for _, metric := range metrics() {
			if n, e := Score(metric, a, b); n != 0 || e != api.ErrVector {
				t.Errorf("Score(%d, %.200v, %.200v) = %d, %d", metric, a, b, n, e)
			}
		}
	}
	all := vectors()
	for _, a := range all {
		for _, b := range all {
			if len(a) != len(b) {
				none(a, b)
			}
		}
	}
	for _, a := range noVectors() {
		none(a, a)
		none(a, nil)
		for _, b := range append(all, filled(len(a), 1)) {
			none(a, b)
			none(b, a)
		}
	}
	none([]int{1, 2}[:1], []int{1, 2})
	none([]int{1, 2}, []int{1, 2, 3, 4}[:3])
}

func TestScoreRefuses(t *testing.T) { // 6.3
	for _, a := range vectors() {
		for _, metric := range noMetrics() {
			if n, e := Score(metric, a, a); n != 0 || e != api.ErrVector {
				t.Errorf("Score(%d, %v, %v) = %d, %d", metric, a, a, n, e)
			}
		}
		o := make([]int, len(a))
		for _, x := range [][2][]int{{a, o}, {o, a}, {o, o}} {
			if n, e := Score(api.MetricCos, x[0], x[1]); n != 0 || e != api.ErrVector {
				t.Errorf("Score(MetricCos, %v, %v) = %d, %d", x[0], x[1], n, e)
			}
		}
	}
}

func TestCosOfItself(t *testing.T) { // 6.4: 2^20 at least
	for dim := 1; dim <= 64; dim++ {
		for _, n := range []int{-32768, -181, -1, 1, 2, 3, 181, 32767} {
			v := filled(dim, n)
			if c := Cos(v, v); c < 1<<20 {
				t.Errorf("Cos(a, a) of %d times %d: %d", dim, n, c)
			}
		}
	}
}

func TestTripletsOfSmall(t *testing.T) { // 6.4
	var l [][]int
	for x := -3; x <= 3; x++ {
		for y := -3; y <= 3; y++ {
			l = append(l, []int{x, y})
		}
	}
	for _, a := range l {
		for _, b := range l {
			follows(t, a, b)
			for _, c := range l {
				triangle(t, a, b, c)
			}
		}
	}
}

// follows wants of a and b, vectors of as many components, what the chapter says that follows.
func follows(t *testing.T, a, b []int) {
	t.Helper()
	if L2(a, b) != L2(b, a) || Dot(a, b) != Dot(b, a) || Cos(a, b) != Cos(b, a) {
		t.Errorf("of %v and %v: not the same the other way round", a, b)
	}
	if (L2(a, b) == 0) != slices.Equal(a, b) {
		t.Errorf("L2(%v, %v) = %d", a, b, L2(a, b))
	}
	if Dot(a, a)+Dot(b, b) != L2(a, b)+2*Dot(a, b) {
		t.Errorf("of %v and %v: the squares are not the distance and twice the product", a, b)
	}
	if !zero(a) && Cos(a, a) < 1<<20 {
		t.Errorf("Cos(%v, itself) = %d", a, Cos(a, a))
	}
	for _, n := range []int{-40000, -1, 1, 7, 40000} {
		c, d := moved(a, n), moved(b, n)
		if Check(c, len(a), api.MetricL2) == api.OK && Check(d, len(b), api.MetricL2) == api.OK && L2(c, d) != L2(a, b) {
			t.Errorf("L2(%v, %v) = %d, moved by %d: %d", a, b, L2(a, b), n, L2(c, d))
		}
	}
}

// moved answers v with n added to each component.
func moved(v []int, n int) []int {
	v = slices.Clone(v)
	for i := range v {
		v[i] += n
	}
	return v
}

func triangle(t *testing.T, a, b, c []int) {
	t.Helper()
	if num.Isqrt(L2(a, c)) > num.Isqrt(L2(a, b))+num.Isqrt(L2(b, c))+1 {
		t.Errorf("from %v to %v it is nearer by %v", a, c, b)
	}
}

func TestNothingIsChanged(t *testing.T) { // R4: what is handed in, also behind the lists' ends
	for _, v := range append(vectors(), noVectors()[:20]...) {
		a := append(slices.Clone(v), 99, 98)[:len(v)]
		b := append(moved(v, -1), math.MinInt, 97)[:len(v)]
		before, also := slices.Clone(a[:len(v)+2]), slices.Clone(b[:len(v)+2])
		for _, metric := range metrics() {
			Check(a, len(a), metric)
			Score(metric, a, b)
			Score(metric, a, a)
		}
		L2(a, b)
		Dot(a, b)
		Cos(a, b)
		if !slices.Equal(before, a[:len(v)+2]) || !slices.Equal(also, b[:len(v)+2]) {
			t.Errorf("%.200v was changed", v)
		}
	}
}

func TestTheSameAgain(t *testing.T) { // R5: nothing of one call is left to another
	a, b := filled(64, -32768), filled(64, 32767)
	short, other := []int{1, 2}, []int{4, 6}
	for range 3 {
		if L2(a, b) != 64*65535*65535 || L2(short, other) != 25 || Dot(short, other) != 16 {
			t.Error("another answer than the first time")
		}
	}
}
