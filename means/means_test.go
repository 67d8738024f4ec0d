package means

import (
	"math"
	"slices"
	"testing"

	"lodestar/api"
	"lodestar/vector"
)

// The face of the chapter: each call with its exact signature.
var (
	_ func([]int, [][]int) int                             = Nearest
	_ func([][]int, int, uint64) [][]int                   = Start
	_ func([][]int, [][]int) [][]int                       = Step
	_ func([][]int, int, int, uint64) ([][]int, api.Errno) = Train
	_ func([][]int, [][]int) int                           = Loss
)

// ones are rows of one component each.
func ones(l ...int) [][]int {
	rows := make([][]int, len(l))
	for i, x := range l {
		rows[i] = []int{x}
	}
	return rows
}

// counted are n rows of one component each, from 0 on by steps.
func counted(n, step int) [][]int {
	rows := make([][]int, n)
	for i := range rows {
		rows[i] = []int{i * step}
	}
	return rows
}

// row is n times x.
func row(n, x int) []int {
	return slices.Repeat([]int{x}, n)
}

// with is l with x at place i.
func with(l []int, i, x int) []int {
	l = slices.Clone(l)
	l[i] = x
	return l
}

// outside are numbers that no component is.
func outside() []int {
	return []int{-32769, 32768, -65536, 65536, 1 << 32, -1 << 32, math.MinInt, math.MaxInt}
}

func same(a, b [][]int) bool {
	return slices.EqualFunc(a, b, slices.Equal)
}

func copied(l [][]int) [][]int {
	rows := make([][]int, len(l))
	for i, v := range l {
		rows[i] = slices.Clone(v)
	}
	return rows
}

func TestExamples(t *testing.T) { // 18.1, 18.3, 18.4
	if n := Nearest([]int{2}, ones(0, 4, 4)); n != 0 {
		t.Errorf("Nearest = %d", n)
	}
	if n := Nearest([]int{3}, ones(0, 4, 4)); n != 1 {
		t.Errorf("Nearest = %d", n)
	}
	if l := Step(ones(0, 1, 10), ones(0, 9, 50)); !same(l, ones(0, 10, 50)) {
		t.Errorf("Step = %v", l)
	}
	if l, e := Train(nil, 1, 1, 1); len(l) != 0 || e != api.ErrTrain {
		t.Errorf("Train = %v, %d", l, e)
	}
	if l, e := Train(ones(5), 3, 1, 1); !same(l, ones(5)) || e != api.OK {
		t.Errorf("Train = %v, %d", l, e)
	}
}

func TestNearest(t *testing.T) { // 18.1
	for i, c := range []struct {
		v         []int
		centroids [][]int
		want      int
	}{
		{[]int{7}, nil, -1}, {[]int{7}, [][]int{}, -1}, {nil, nil, -1},
		{[]int{7}, ones(7), 0}, {[]int{7}, ones(-32768), 0},
		{[]int{7}, ones(9, 8, 7, 6), 2}, {[]int{7}, ones(6, 8), 0}, {[]int{7}, ones(8, 6), 0}, {[]int{7}, ones(0, 5, 9, 5), 1}, // of several the first
		{[]int{7}, ones(0, 7, 7), 1}, {[]int{7}, ones(7, 7), 0}, {[]int{-7}, ones(7, -5, -9, -6), 3},
		{[]int{0, 0}, [][]int{{3, 3}, {0, 4}, {4, 0}}, 1}, // by squares: 18, 16, 16
		{[]int{0, 0}, [][]int{{5, 5}, {0, 7}}, 1},         // 50, 49; by sums of differences the other one
		{[]int{0, 0}, [][]int{{4, 4}, {0, 5}}, 1},         // 32, 25; by the greatest difference the other one
		{[]int{1, 2, 3}, [][]int{{3, 2, 1}, {1, 2, 4}, {1, 2, 2}}, 1},
		{[]int{5, 1}, [][]int{{500, 100}, {4, 0}}, 1}, // by no product
		{[]int{32767}, ones(-32768, 32766), 1},
		{row(64, 32767), [][]int{row(64, -32768), with(row(64, -32768), 63, -32767)}, 1},
		{row(64, -32768), [][]int{row(64, 32767), row(64, 32767)}, 0},
	} {
		if n := Nearest(c.v, c.centroids); n != c.want {
			t.Errorf("%d: Nearest(%v, %v) = %d, want %d", i, c.v, c.centroids, n, c.want)
		}
	}
}

func TestNearestOfAny(t *testing.T) { // 18.1: vector.L2 is 0 where two are no pair of vectors
	for i, c := range []struct {
		v         []int
		centroids [][]int
		want      int
	}{
		{nil, ones(1, 2), 0}, {[]int{}, [][]int{{}, nil}, 0}, {[]int{1, 2}, ones(1, 2), 0},
		{[]int{9}, [][]int{{8}, {1, 2}, {9}}, 1}, {[]int{9}, [][]int{{8}, nil}, 1}, {[]int{9}, [][]int{{8}, {9}, {}}, 1},
		{[]int{9}, ones(8, 32768, 9), 1}, {[]int{9}, ones(8, -32769), 1}, {[]int{9}, ones(8, math.MinInt), 1},
		{[]int{32768}, ones(9, 32767), 0}, {[]int{math.MaxInt}, ones(math.MinInt, math.MaxInt), 0},
		{row(65, 1), [][]int{row(65, 3), row(65, 1)}, 0}, {row(64, 1), [][]int{row(64, 3), row(65, 1), row(64, 1)}, 1},
	} {
		if n := Nearest(c.v, c.centroids); n != c.want {
			t.Errorf("%d: Nearest(%v, %v) = %d, want %d", i, c.v, c.centroids, n, c.want)
		}
	}
}

func TestStart(t *testing.T) { // 18.2
	const high, all = 1 << 63, math.MaxUint64
	for _, c := range []struct {
		n    int
		seed uint64
		want [][]int
	}{
		{1, 0, ones(0)}, {1, all, ones(0)},
		{2, 0, ones(1, 0)}, {2, 1, ones(1, 0)}, {2, high, ones(1, 0)}, {2, all, ones(0, 1)},
		{3, 0, ones(1, 0, 2)}, {3, 1, ones(2, 0, 1)}, {3, 7, ones(0, 1, 2)}, {3, high, ones(1, 0, 2)}, {3, all, ones(2, 0, 1)},
		{5, 0, ones(0, 1, 3, 2, 4)}, {5, 1, ones(0, 4, 2, 1, 3)}, {5, 7, ones(2, 1, 0, 4, 3)}, {5, high, ones(0, 3, 1, 4, 2)}, {5, all, ones(1, 2, 3, 0, 4)},
		{10, 0, ones(5, 1, 9, 7, 0, 4, 3, 2, 6, 8)}, {10, 1, ones(5, 8, 1, 3, 7, 2, 4, 6, 0, 9)}, {10, 7, ones(7, 0, 4, 6, 8, 5, 2, 1, 9, 3)},
		{10, high, ones(5, 3, 2, 6, 0, 4, 9, 8, 7, 1)}, {10, all, ones(6, 7, 3, 9, 4, 5, 1, 2, 8, 0)},
	} {
		for _, k := range []int{math.MinInt, -1, 0, 1, 2, c.n - 1, c.n, c.n + 1, 1 << 40, math.MaxInt} {
			want := c.want[:min(max(k, 0), c.n)] // a greater k only goes on
			if l := Start(counted(c.n, 1), k, c.seed); !same(l, want) {
				t.Errorf("Start(%d rows, %d, %d) = %v, want %v", c.n, k, c.seed, l, want)
			}
		}
	}
}

func TestStartOfAny(t *testing.T) { // 18.2: whatever the rows are
	for _, l := range [][][]int{nil, {}} {
		for _, k := range []int{-1, 0, 1, math.MaxInt} {
			if got := Start(l, k, 3); len(got) != 0 {
				t.Errorf("Start of nothing, %d = %v", k, got)
			}
		}
	}
	rows := [][]int{nil, {1, 2}, {math.MaxInt}, row(65, 1), {}} // 5 by seed 1: 0 4 2 1 3
	if got, want := Start(rows, 9, 1), [][]int{nil, {}, {math.MaxInt}, {1, 2}, row(65, 1)}; !same(got, want) {
		t.Errorf("Start = %v", got)
	}
	if got := Start(ones(6, 6, 6), 2, 1); !same(got, ones(6, 6)) { // unlike places, the same rows
		t.Errorf("Start of the same = %v", got)
	}
}

func TestStep(t *testing.T) { // 18.3
	for i, c := range []struct{ l, centroids, want [][]int }{
		{ones(5), ones(0), ones(5)}, {ones(5), ones(5), ones(5)}, {ones(5, 6), ones(0), ones(5)},
		{ones(1, 2), ones(0), ones(1)}, {ones(-1, -2), ones(0), ones(-2)}, {ones(-1, 0), ones(0), ones(-1)}, {ones(1, -2), ones(0), ones(-1)}, // downwards
		{ones(1, 1, 3), ones(9), ones(1)}, {ones(-1, -1, -3), ones(9), ones(-2)}, {ones(-5, 1), ones(0), ones(-2)}, {ones(0, 0, -1), ones(0), ones(-1)},
		{ones(2), ones(0, 4), ones(2, 4)}, {ones(2), ones(4, 0), ones(2, 0)}, {ones(2, 2), ones(0, 4, 0), ones(2, 4, 0)}, // the first of two as near
		{ones(7), ones(7, 7, 7), ones(7, 7, 7)}, {ones(6, 8), ones(7, 7), ones(7, 7)}, {ones(9), ones(7, 7), ones(9, 7)},
		{ones(0, 10, 1, 11), ones(2, 9), ones(0, 10)}, {ones(11, 1, 10, 0), ones(9, 2), ones(10, 0)},
		{ones(0, 4, 10), ones(0, 6), ones(0, 7)}, // by the centroids ahead: 4 stays with 6, though 0 is nearer than 7 then
		{ones(1, 5, 6), ones(0, 4, 12), ones(1, 5, 12)},
		{[][]int{{1, 10}, {2, 20}, {100, 3}}, [][]int{{0, 0}, {90, 0}}, [][]int{{1, 15}, {100, 3}}},
		{[][]int{{-1, 1}, {-2, 2}}, [][]int{{0, 0}}, [][]int{{-2, 1}}},
		{[][]int{{1, 2, 3}, {3, 2, 1}, {5, 5, 6}}, [][]int{{0, 0, 0}}, [][]int{{3, 3, 3}}},
		{ones(-32768, -32768, -32768), ones(32767), ones(-32768)}, {ones(32767, 32767), ones(-32768), ones(32767)}, {ones(32767, -32768), ones(0), ones(-1)},
		{[][]int{row(64, 1), row(64, 4)}, [][]int{row(64, 0), row(64, -9)}, [][]int{row(64, 2), row(64, -9)}},
	} {
		if l := Step(c.l, c.centroids); !same(l, c.want) {
			t.Errorf("%d: Step(%v, %v) = %v, want %v", i, c.l, c.centroids, l, c.want)
		}
	}
}

func TestStepOfMany(t *testing.T) { // 18.3: no sum leaves its place
	l := append(slices.Repeat(ones(-32768), 70001), slices.Repeat(ones(32767), 70000)...)
	if got := Step(l, ones(-1, 1)); !same(got, ones(-32768, 32767)) {
		t.Errorf("Step = %v", got)
	}
	if got := Step(l, ones(-1)); !same(got, ones(-1)) {
		t.Errorf("Step = %v", got)
	}
}

// unlearnable are rows that may not be learnt from; those of one row alone are empty, too long or out of range.
func unlearnable() [][][]int {
	l := [][][]int{{nil}, {{}}, {nil, nil}, {nil, {1}}, {{1}, nil}, {{1}, {}}, {{1}, {1, 2}}, {{1, 2}, {1}}, {{1, 2}, {1, 2}, {1, 2, 3}}, {{1, 2}, {1, 2}, {1}},
		{row(65, 1)}, {row(65, 1), row(65, 1)}, {row(64, 1), row(65, 1)}, {row(64, 1), row(63, 1)}, {row(1000, 1)}}
	for _, x := range outside() {
		l = append(l, ones(x), ones(x, 1, 1), ones(1, x, 1), ones(1, 1, x), [][]int{{1, x}, {1, 1}}, [][]int{{1, 1}, {x, 1}}, [][]int{with(row(64, 1), 63, x)})
	}
	return l
}

func TestStepNothing(t *testing.T) { // 18.3
	for _, l := range [][][]int{nil, {}, ones(1), ones(1, 2), {{1, 2}}, {nil}} {
		for _, empty := range [][][]int{nil, {}} {
			if got := Step(l, empty); len(got) != 0 {
				t.Errorf("Step(%v, none) = %v", l, got)
			}
			if got := Step(empty, l); len(got) != 0 {
				t.Errorf("Step(none, %v) = %v", l, got)
			}
		}
	}
	for i, l := range unlearnable() {
		for _, other := range [][][]int{l[:1], l, ones(1), {row(2, 1)}, {row(63, 1)}, {row(64, 1)}, {row(65, 1)}} {
			if got := Step(l, other); len(got) != 0 {
				t.Errorf("%d: Step(%v, %v) = %v", i, l, other, got)
			}
			if got := Step(other, l); len(got) != 0 {
				t.Errorf("%d: Step(%v, %v) = %v", i, other, l, got)
			}
		}
	}
	for _, dims := range [][2]int{{1, 2}, {2, 1}, {64, 63}, {63, 64}} { // each may be learnt from, not both together
		l, other := [][]int{row(dims[0], 1)}, [][]int{row(dims[1], 1)}
		if got := Step(l, other); len(got) != 0 {
			t.Errorf("Step(%v, %v) = %v", l, other, got)
		}
	}
}

func TestTrain(t *testing.T) { // 18.4
	l := [][]int{{0, 0}, {1, 5}, {-3, 2}, {9, 9}, {10, 8}, {-7, -7}, {4, 4}, {3, -6}}
	for i, c := range []struct {
		k, rounds int
		seed      uint64
		want      [][]int
	}{
		{1, 0, 0, [][]int{{3, -6}}}, {1, 0, 5, [][]int{{-3, 2}}}, {1, 1, 0, [][]int{{2, 1}}}, {1, 1, 5, [][]int{{2, 1}}}, {1, 64, 0, [][]int{{2, 1}}},
		{2, -1, 0, [][]int{{3, -6}, {-3, 2}}}, {2, math.MinInt, 0, [][]int{{3, -6}, {-3, 2}}}, {2, 0, 0, [][]int{{3, -6}, {-3, 2}}},
		{2, 1, 0, [][]int{{3, -6}, {2, 3}}}, {2, 2, 0, [][]int{{-2, -7}, {3, 4}}}, {2, 64, 0, [][]int{{-2, -7}, {3, 4}}}, {2, math.MaxInt, 0, [][]int{{-2, -7}, {3, 4}}},
		{2, 0, 5, [][]int{{-3, 2}, {4, 4}}}, {2, 1, 5, [][]int{{-2, -3}, {6, 6}}}, {2, 2, 5, [][]int{{-2, -3}, {6, 6}}},
		{3, 1, 0, [][]int{{3, -6}, {-3, 0}, {7, 7}}}, {3, 2, 0, [][]int{{3, -6}, {-4, -2}, {6, 6}}}, {3, 64, 5, [][]int{{-4, -2}, {6, 6}, {3, -6}}},
		{8, 3, 5, [][]int{{-3, 2}, {4, 4}, {3, -6}, {0, 0}, {-7, -7}, {1, 5}, {9, 9}, {10, 8}}},
		{9, 3, 5, [][]int{{-3, 2}, {4, 4}, {3, -6}, {0, 0}, {-7, -7}, {1, 5}, {9, 9}, {10, 8}}},
		{math.MaxInt, 0, 0, [][]int{{3, -6}, {-3, 2}, {9, 9}, {0, 0}, {1, 5}, {-7, -7}, {10, 8}, {4, 4}}},
	} {
		if got, e := Train(l, c.k, c.rounds, c.seed); !same(got, c.want) || e != api.OK {
			t.Errorf("%d: Train(%d, %d, %d) = %v, %d, want %v", i, c.k, c.rounds, c.seed, got, e, c.want)
		}
	}
	for _, v := range [][]int{{-32768}, {32767}, row(64, 7), row(64, -32768)} {
		if got, e := Train([][]int{v, v}, 1, 5, 1); !same(got, [][]int{v}) || e != api.OK {
			t.Errorf("Train of %v = %v, %d", v, got, e)
		}
	}
}

func TestTrainRefuses(t *testing.T) { // 18.4
	bad := append(unlearnable(), nil, [][]int{})
	for i, l := range bad {
		for _, k := range []int{math.MinInt, -1, 0, 1, 2, math.MaxInt} {
			for _, rounds := range []int{-1, 0, 1, 64, math.MaxInt} {
				if got, e := Train(l, k, rounds, 1); len(got) != 0 || e != api.ErrTrain {
					t.Errorf("%d: Train(%v, %d, %d) = %v, %d", i, l, k, rounds, got, e)
				}
			}
		}
	}
	for _, k := range []int{math.MinInt, -64, -1, 0} {
		for _, rounds := range []int{-1, 0, 1, 64} {
			if got, e := Train(ones(1, 2, 3), k, rounds, 1); len(got) != 0 || e != api.ErrTrain {
				t.Errorf("Train(%d, %d) = %v, %d", k, rounds, got, e)
			}
		}
	}
}

func TestTrainRounds(t *testing.T) { // 18.4: rows whose centroids stand still only behind more than 64 rounds
	for _, c := range []struct {
		step  int
		seed  uint64
		after [][]int // 64 rounds
	}{
		{1, 1, ones(106, 473, 307, 525, 575, 175, 367, 242, 35, 421)},
		{1, 3, ones(455, 514, 395, 94, 217, 156, 336, 31, 571, 277)},
		{3, 1, ones(321, 1434, 933, 1584, 1728, 532, 1113, 738, 106, 1278)},
	} {
		rows := counted(600, c.step)
		want := Start(rows, 10, c.seed)
		for rounds := range 65 {
			if rounds < 4 || rounds%21 == 0 || rounds > 62 {
				if got, e := Train(rows, 10, rounds, c.seed); !same(got, want) || e != api.OK {
					t.Fatalf("%v: behind %d rounds %v, %d, want %v", c, rounds, got, e, want)
				}
			}
			want = Step(rows, want)
		}
		if behind, e := Train(rows, 10, 64, c.seed); e != api.OK || same(behind, want) {
			t.Fatalf("%v: %v, %d stood still", c, behind, e)
		}
		for _, rounds := range []int{64, 65, 66, 128, 1 << 40, math.MaxInt} {
			if got, e := Train(rows, 10, rounds, c.seed); !same(got, c.after) || e != api.OK {
				t.Errorf("%v: behind %d rounds %v, %d", c, rounds, got, e)
			}
		}
	}
}

func TestLoss(t *testing.T) { // 18.4
	wide := [][]int{row(64, 32767), row(64, 32767), row(64, 32767)}
	for i, c := range []struct {
		l, centroids [][]int
		want         int
	}{
		{nil, nil, 0}, {ones(1, 2), nil, 0}, {ones(1, 2), [][]int{}, 0}, {nil, ones(1), 0}, {[][]int{}, ones(1), 0},
		{ones(5), ones(5), 0}, {ones(5), ones(2), 9}, {ones(5), ones(2, 7), 4}, {ones(5), ones(7, 2), 4}, {ones(-5, 5), ones(0), 50},
		{ones(1, 8), ones(0, 9, 50), 2}, {ones(1, 2, 3, 3), ones(3), 5}, {ones(1, 2, 3), ones(0, 10), 14},
		{[][]int{{1, 2}, {4, 6}}, [][]int{{1, 2}}, 25}, {[][]int{{1, 2}, {4, 6}}, [][]int{{1, 2}, {4, 5}}, 1},
		{wide, [][]int{row(64, -32768)}, 3 * 64 * 65535 * 65535},
	} {
		if n := Loss(c.l, c.centroids); n != c.want {
			t.Errorf("%d: Loss(%v, %v) = %d, want %d", i, c.l, c.centroids, n, c.want)
		}
	}
}

func TestLossOfAny(t *testing.T) { // 18.4: vector.L2 is 0 where two are no pair of vectors
	for i, c := range []struct {
		l, centroids [][]int
		want         int
	}{
		{[][]int{nil, {}, {1, 2}, {32768}, row(65, 1)}, ones(9), 0}, {[][]int{{1, 2}, {5}}, ones(9), 16},
		{ones(5, 6), [][]int{{9}, nil}, 0}, {ones(5, 6), ones(9, -32769), 0}, {[][]int{{5}, {1, 2}}, [][]int{{9}, {1, 2}}, 0}, {[][]int{nil}, [][]int{nil}, 0},
		{[][]int{{5}, {5, 5}, {7, 7}}, [][]int{{6}, {8}}, 1},
	} {
		if n := Loss(c.l, c.centroids); n != c.want {
			t.Errorf("%d: Loss(%v, %v) = %d, want %d", i, c.l, c.centroids, n, c.want)
		}
	}
}

func TestMemory(t *testing.T) { // R4
	room := []int{3, 4, 99, 99}
	back := [][]int{room[:2], {5, 1}, {40, 40}, {3, 4}, {77, 77}}
	near := [][]int{[]int{3, 2, 88}[:2], []int{50, 50, 88}[:2], {50, 50}, {66, 66}}
	l, centroids := back[:4], near[:3]
	first, second := copied(back), copied(near)
	calls := []func() [][]int{
		func() [][]int { return Start(l, 4, 1) },
		func() [][]int { return Step(l, centroids) }, // to the mean of three, to one row, and one that stays
		func() [][]int { m, _ := Train(l, 4, 0, 1); return m },
		func() [][]int { m, _ := Train(l, 4, 64, 1); return m },
		func() [][]int { m, _ := Train(l[:1], 1, 64, 1); return m },
	}
	for i, call := range calls {
		want := copied(call())
		got, other := call(), call()
		for j := range got { // nor do two of one answer share any
			_ = append(got[j], 55)
			for n := range got[j] {
				got[j][n] = 1000 + j
			}
		}
		for j, v := range got {
			if !slices.Equal(v, row(2, 1000+j)) {
				t.Errorf("%d: %v share", i, got)
			}
		}
		_ = append(got, []int{1})
		Nearest(room[:2], centroids)
		Loss(l, centroids)
		if !same(other, want) || !same(call(), want) || !same(back, first) || !same(near, second) {
			t.Errorf("%d: %v became %v; %v, %v", i, want, other, back, near)
		}
		if !slices.Equal(room, []int{3, 4, 99, 99}) || near[0][:3][2] != 88 || near[1][:3][2] != 88 {
			t.Errorf("%d: %v, %v behind the end", i, room, near)
		}
	}
}

func TestMemoryOfTheSame(t *testing.T) { // R4: one row under several places
	twice := []int{6}
	l := [][]int{twice, twice}
	drawn, moved := Start(l, 2, 1), Step(l, l)
	drawn[0][0], moved[0][0] = 8, 8
	if want := ones(8, 6); !same(drawn, want) || !same(moved, want) || twice[0] != 6 {
		t.Errorf("%v, %v, %v share", drawn, moved, twice)
	}
}

func TestFollows(t *testing.T) { // 18.5: with as many centroids as unlike rows, taken from them all, nothing is lost
	rows := [][]int{{1, 2}, {3, 4}, {1, 2}, {5, -6}, {3, 4}, {0, 0}, {1, 3}}
	for seed := range uint64(200) {
		l := Start(rows, len(rows), seed)
		sorted, want := copied(l), copied(rows)
		slices.SortFunc(sorted, slices.Compare)
		slices.SortFunc(want, slices.Compare)
		if !same(sorted, want) {
			t.Fatalf("Start by %d = %v", seed, l)
		}
		if n := Loss(rows, l); n != 0 {
			t.Fatalf("Loss of %v = %d", l, n)
		}
		if m, e := Train(rows, len(rows), 9, seed); e != api.OK || Loss(rows, m) != 0 {
			t.Fatalf("Train by %d = %v, %d", seed, m, e)
		}
		for _, v := range rows {
			if i := Nearest(v, l); vector.L2(v, l[i]) != 0 {
				t.Fatalf("Nearest(%v, %v) = %d", v, l, i)
			}
		}
	}
}
