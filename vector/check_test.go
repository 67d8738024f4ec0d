package vector

import (
	"math"
	"slices"
	"testing"

	"lodestar/api"
)

// The face of the chapter: each call with its exact signature.
var (
	_ func([]int, int, int) api.Errno          = Check
	_ func([]int, []int) int                   = L2
	_ func([]int, []int) int                   = Dot
	_ func([]int, []int) int                   = Cos
	_ func(int, []int, []int) (int, api.Errno) = Score
)

// metrics are the three.
func metrics() []int { return []int{api.MetricL2, api.MetricDot, api.MetricCos} }

// noMetrics are none.
func noMetrics() []int {
	return []int{0, -1, 4, 5, 1 << 8, 1<<8 + 1, 1<<32 + 1, math.MaxInt, math.MinInt, math.MinInt + 1}
}

// filled answers a row of dim times n.
func filled(dim, n int) []int { return slices.Repeat([]int{n}, dim) }

// with answers v, but for n at a place.
func with(v []int, at, n int) []int {
	v = slices.Clone(v)
	v[at] = n
	return v
}

// outside are such as no component is.
func outside() []int {
	return []int{32768, -32769, 32769, 65535, 65536, -65536, 1 << 31, -1 << 31, 1 << 32, 1<<32 + 1, math.MaxInt, math.MinInt, math.MaxInt - 32768, math.MinInt + 32767}
}

// noVectors are none: for how many components they have, or for one of these.
func noVectors() [][]int {
	l := [][]int{nil, {}, filled(65, 1), filled(66, 0), filled(128, 5), filled(100000, 1)}
	for _, n := range outside() {
		l = append(l, []int{n})
		for _, at := range []int{0, 1, 31, 62, 63} {
			l = append(l, with(filled(64, 1), at, n), with(make([]int, 64), at, n))
		}
	}
	return l
}

// vectors are some, none of them 0, of dimensions 1, 2, 3, 5 and 64.
func vectors() [][]int {
	l := [][]int{{1}, {-1}, {2}, {32767}, {-32768}, {-32767}, {3, 4}, {1, 0}, {0, 1}, {1, 1}, {-1, 3}, {0, -32768}, {32767, -32768}, {1, 2, 3}, {0, 0, 1}, {-7, 0, 7}, {9, 8, 7, -6, 5}}
	for _, n := range []int{1, -1, 181, 32767, -32768} {
		l = append(l, filled(64, n), with(make([]int, 64), 0, n), with(make([]int, 64), 63, n))
	}
	return l
}

func TestCheckTakes(t *testing.T) { // 6.1
	for _, v := range vectors() {
		for _, metric := range metrics() {
			if e := Check(v, len(v), metric); e != api.OK {
				t.Errorf("Check(%v, %d, %d) = %d", v, len(v), metric, e)
			}
		}
	}
	for dim := 1; dim <= 64; dim++ {
		for _, n := range []int{-32768, -1, 1, 32767} {
			for _, metric := range metrics() {
				if e := Check(filled(dim, n), dim, metric); e != api.OK {
					t.Errorf("Check of %d times %d by %d: %d", dim, n, metric, e)
				}
			}
		}
	}
}

func TestCheckOfOneComponent(t *testing.T) { // 6.1: at the limits and past them
	for n := -70000; n <= 70000; n++ {
		want := api.OK
		if n < -32768 || n > 32767 {
			want = api.ErrVector
		}
		if e := Check([]int{n}, 1, api.MetricL2); e != want {
			t.Fatalf("Check([%d]) = %d", n, e)
		}
	}
}

func TestCheckOfZero(t *testing.T) { // 6.1: by MetricCos alone
	for dim := 1; dim <= 64; dim++ {
		v := make([]int, dim)
		if Check(v, dim, api.MetricL2) != api.OK || Check(v, dim, api.MetricDot) != api.OK || Check(v, dim, api.MetricCos) != api.ErrVector {
			t.Errorf("Check of %d times 0: %d, %d, %d", dim, Check(v, dim, api.MetricL2), Check(v, dim, api.MetricDot), Check(v, dim, api.MetricCos))
		}
		for at := range dim {
			if e := Check(with(v, at, -1), dim, api.MetricCos); e != api.OK {
				t.Errorf("Check of %d times 0, but for the place %d: %d", dim, at, e)
			}
		}
	}
}

func TestCheckRefuses(t *testing.T) { // 6.1
	refused := func(v []int, dim, metric int) {
		t.Helper()
		if e := Check(v, dim, metric); e != api.ErrVector {
			t.Errorf("Check(%.200v, %d, %d) = %d", v, dim, metric, e)
		}
	}
	for _, v := range noVectors() {
		for _, metric := range append(metrics(), noMetrics()...) {
			refused(v, len(v), metric)
		}
	}
	for _, v := range vectors() {
		for _, metric := range noMetrics() {
			refused(v, len(v), metric)
		}
		for _, dim := range []int{0, -1, 4, 63, 65, len(v) - 1, len(v) + 1, -len(v), len(v) + 1<<8, len(v) + 1<<32, math.MaxInt, math.MinInt} {
			for _, metric := range metrics() {
				refused(v, dim, metric)
			}
		}
	}
	for _, dim := range []int{-1, 1, 64} {
		refused(nil, dim, api.MetricL2)
		refused([]int{}, dim, api.MetricDot)
	}
}

func TestCheckKeepsToTheEnd(t *testing.T) { // R4, 6.1: what lies behind a list's end is no part of it
	v := []int{1, 2, 99999, 3}
	if e := Check(v[:2], 2, api.MetricL2); e != api.OK {
		t.Errorf("Check of two ahead of another: %d", e)
	}
	if e := Check([]int{0, 0, 1}[:2], 2, api.MetricCos); e != api.ErrVector {
		t.Errorf("Check of noughts ahead of another: %d", e)
	}
}
