package scalar

import (
	"math"
	"slices"
	"strings"
	"testing"

	"lodestar/api"
)

// The face of the chapter: each call with its exact signature.
var (
	_ func([][]int) (api.Scalar, api.Errno)                                = Train
	_ func(api.Scalar, []int) (string, api.Errno)                          = Encode
	_ func(api.Scalar, string) ([]int, api.Errno)                          = Decode
	_ func(api.Scalar) []int                                               = Error
	_ func(int, api.Scalar, []int, []api.Item, int) ([]api.Hit, api.Errno) = Search
)

// of is the quantizer of components that go from low to high, two numbers each.
func of(l ...int) api.Scalar {
	var q api.Scalar
	for i := 0; i < len(l); i += 2 {
		q.Low, q.High = append(q.Low, l[i]), append(q.High, l[i+1])
	}
	return q
}

// row is n times x.
func row(n, x int) []int {
	return slices.Repeat([]int{x}, n)
}

// with is l with x at place i.
func with(l []int, i, x int) []int {
	l = slices.Clone(l)
	l[i] = x
	return l
}

// outside are numbers that no component is.
func outside() []int {
	return []int{-32769, 32768, -65536, 65536, 1 << 32, -1 << 32, math.MinInt, math.MaxInt}
}

func metrics() []int { return []int{api.MetricL2, api.MetricDot, api.MetricCos} }

func same(q, r api.Scalar) bool {
	return slices.Equal(q.Low, r.Low) && slices.Equal(q.High, r.High)
}

// example is that of the chapter.
func example(t *testing.T) api.Scalar {
	t.Helper()
	q, e := Train([][]int{{0, 10}, {255, 10}})
	if e != api.OK || !same(q, of(0, 255, 10, 10)) {
		t.Fatalf("Train = %v, %d", q, e)
	}
	return q
}

func TestExamples(t *testing.T) { // 17.1, 17.2
	q := example(t)
	if s, e := Encode(q, []int{128, 10}); s != "\x80\x00" || e != api.OK {
		t.Errorf("Encode = %q, %d", s, e)
	}
	if v, e := Decode(q, "\x80\x00"); !slices.Equal(v, []int{128, 10}) || e != api.OK {
		t.Errorf("Decode = %v, %d", v, e)
	}
	if s, e := Encode(q, []int{-5, 99}); s != "\x00\xff" || e != api.OK {
		t.Errorf("Encode = %q, %d", s, e)
	}
	if l := Error(q); !slices.Equal(l, []int{2, 1}) {
		t.Errorf("Error = %v", l)
	}
	if q, e := Train(nil); e != api.ErrTrain || !same(q, api.Scalar{}) {
		t.Errorf("Train = %v, %d", q, e)
	}
}

func TestTrain(t *testing.T) { // 17.1
	for i, c := range []struct {
		l    [][]int
		want api.Scalar
	}{
		{[][]int{{7}}, of(7, 7)},
		{[][]int{{7, -3}}, of(7, 7, -3, -3)},
		{[][]int{{1}, {2}, {3}}, of(1, 3)},
		{[][]int{{3}, {2}, {1}}, of(1, 3)},
		{[][]int{{2}, {1}, {3}, {2}}, of(1, 3)},
		{[][]int{{2}, {3}, {1}, {2}}, of(1, 3)},
		{[][]int{{1, 9}, {2, 8}, {3, 7}}, of(1, 3, 7, 9)},
		{[][]int{{5, 5, 5}, {5, 4, 6}, {5, 6, 4}}, of(5, 5, 4, 6, 4, 6)},
		{[][]int{{-1}, {-9}, {-4}}, of(-9, -1)},
		{[][]int{{4}, {9}}, of(4, 9)}, // no 0 that nobody gave
		{[][]int{{-4}, {-9}}, of(-9, -4)},
		{[][]int{{-32768, 32767}, {32767, -32768}}, of(-32768, 32767, -32768, 32767)},
		{[][]int{{0}, {0}, {0}}, of(0, 0)},
		{[][]int{row(64, 1), row(64, 2)}, api.Scalar{Low: row(64, 1), High: row(64, 2)}},
	} {
		if q, e := Train(c.l); e != api.OK || !same(q, c.want) {
			t.Errorf("%d: Train(%v) = %v, %d", i, c.l, q, e)
		}
	}
}

func TestTrainRefuses(t *testing.T) { // 17.1
	bad := [][][]int{nil, {}, {nil}, {{}}, {nil, nil}, {nil, {1}}, {{1}, nil}, {{1}, {}}, {{1}, {1, 2}}, {{1, 2}, {1}}, {{1, 2}, {1, 2}, {1, 2, 3}},
		{row(65, 1)}, {row(65, 1), row(65, 1)}, {row(64, 1), row(65, 1)}, {row(64, 1), row(63, 1)}, {row(1000, 1)}}
	for _, x := range outside() {
		bad = append(bad, [][]int{{x}}, [][]int{{x, 1}, {1, 1}, {1, 1}}, [][]int{{1, x}, {1, 1}, {1, 1}}, [][]int{{1, 1}, {x, 1}, {1, 1}},
			[][]int{{1, 1}, {1, x}, {1, 1}}, [][]int{{1, 1}, {1, 1}, {x, 1}}, [][]int{{1, 1}, {1, 1}, {1, x}}, [][]int{with(row(64, 1), 63, x)})
	}
	for i, l := range bad {
		if q, e := Train(l); e != api.ErrTrain || len(q.Low)+len(q.High) != 0 {
			t.Errorf("%d: Train(%v) = %v, %d", i, l, q, e)
		}
	}
}

// bad are quantizers that may not be.
func bad() []api.Scalar {
	l := []api.Scalar{{}, {Low: []int{}, High: []int{}}, {Low: []int{1}}, {High: []int{1}}, {Low: []int{1}, High: []int{1, 1}}, {Low: []int{1, 1}, High: []int{1}},
		{Low: row(65, 1), High: row(65, 1)}, {Low: row(64, 1), High: row(65, 1)}, {Low: row(65, 1), High: row(64, 1)},
		of(2, 1), of(0, -1), of(2, 1, 1, 1), of(1, 1, 1, 1, 2, 1), of(32767, -32768), {Low: with(row(64, 1), 63, 2), High: row(64, 1)}}
	for _, x := range outside() {
		l = append(l, of(x, x), of(x, 32767), of(-32768, x), of(x, 32767, 1, 1), of(1, 1, x, 32767), of(-32768, x, 1, 1), of(1, 1, -32768, x))
	}
	return l
}

func TestBadQuantizers(t *testing.T) { // 17.2, 17.3, R2: ErrTrain is ahead of ErrVector
	for i, q := range bad() {
		for _, v := range [][]int{nil, {1}, {1, 1}, row(64, 1), row(65, 1), {math.MaxInt}} {
			if s, e := Encode(q, v); s != "" || e != api.ErrTrain {
				t.Errorf("%d: Encode(%v, %v) = %q, %d", i, q, v, s, e)
			}
			if d, e := Decode(q, strings.Repeat("a", len(v))); len(d) != 0 || e != api.ErrTrain {
				t.Errorf("%d: Decode(%v, of %d) = %v, %d", i, q, len(v), d, e)
			}
			for _, metric := range append(metrics(), 0, 4) {
				if l, e := Search(metric, q, v, []api.Item{{Id: 1, V: v}}, 1); len(l) != 0 || e != api.ErrTrain {
					t.Errorf("%d: Search(%d, %v, %v) = %v, %d", i, metric, q, v, l, e)
				}
			}
		}
		if l, e := Search(api.MetricL2, q, row(len(q.Low), 1), nil, 1); len(l) != 0 || e != api.ErrTrain {
			t.Errorf("%d: Search(%v) of nothing = %v, %d", i, q, l, e)
		}
		if l := Error(q); len(l) != 0 {
			t.Errorf("%d: Error(%v) = %v", i, q, l)
		}
	}
}

func TestEncode(t *testing.T) { // 17.2
	for i, c := range []struct {
		low, high int
		x         int
		want      byte
	}{
		{0, 255, 0, 0}, {0, 255, 1, 1}, {0, 255, 254, 254}, {0, 255, 255, 255}, {0, 255, 256, 255}, {0, 255, -1, 0},
		{0, 1, 0, 0}, {0, 1, 1, 255}, {0, 1, 2, 255},
		{0, 2, 1, 127}, {0, 3, 1, 85}, {0, 3, 2, 170}, {0, 4, 1, 63}, {0, 4, 3, 191}, {0, 7, 6, 218}, // downwards
		{-2, 0, -1, 127}, {-4, 0, -1, 191}, {-4, 0, -3, 63}, {-1, 2, 0, 85}, {-9, -2, -3, 218},
		{5, 5, 5, 0}, {5, 5, 4, 0}, {5, 5, 6, 255}, {0, 0, 0, 0}, {0, 0, -1, 0}, {0, 0, 1, 255}, {-5, -5, -5, 0}, {-5, -5, 5, 255}, // Low is High
		{5, 9, 4, 0}, {5, 9, -32768, 0}, {5, 9, 10, 255}, {5, 9, 32767, 255},
		{-32768, 32767, -32768, 0}, {-32768, 32767, 32767, 255}, {-32768, 32767, 32766, 254}, {-32768, 32767, 0, 127}, {-32768, 32767, -1, 127}, {-32768, 32767, -129, 127}, {-32768, 32767, -130, 126},
		{-32768, 32767, -32512, 0}, {-32768, 32767, -32511, 1}, {-32768, -32768, -32768, 0}, {-32768, -32768, -32767, 255}, {32767, 32767, 32767, 0}, {32767, 32767, 32766, 0},
	} {
		if s, e := Encode(of(c.low, c.high), []int{c.x}); s != string([]byte{c.want}) || e != api.OK {
			t.Errorf("%d: Encode(%d to %d, %d) = %q, %d", i, c.low, c.high, c.x, s, e)
		}
	}
}

func TestEncodeEachByItsOwn(t *testing.T) { // 17.2
	q := of(0, 10, 5, 5, -10, 0, -3, 3)
	if s, e := Encode(q, []int{10, 5, -5, -4}); s != "\xff\x00\x7f\x00" || e != api.OK {
		t.Errorf("Encode = %q, %d", s, e)
	}
	if v, e := Decode(q, "\xff\x09\x7f\x80"); !slices.Equal(v, []int{10, 5, -6, 0}) || e != api.OK {
		t.Errorf("Decode = %v, %d", v, e)
	}
	if l := Error(of(0, 254, 0, 255, 7, 7, -255, 255)); !slices.Equal(l, []int{1, 2, 1, 3}) {
		t.Errorf("Error = %v", l)
	}
	wide := api.Scalar{Low: row(64, -32768), High: row(64, 32767)}
	if s, e := Encode(wide, with(row(64, -32768), 63, 32767)); s != strings.Repeat("\x00", 63)+"\xff" || e != api.OK {
		t.Errorf("Encode of 64 = %q, %d", s, e)
	}
	if v, e := Decode(wide, strings.Repeat("\x00", 63)+"\xff"); !slices.Equal(v, with(row(64, -32768), 63, 32767)) || e != api.OK {
		t.Errorf("Decode of 64 = %v, %d", v, e)
	}
	if l := Error(wide); !slices.Equal(l, row(64, 258)) {
		t.Errorf("Error of 64 = %v", l)
	}
}

func TestEncodeRefuses(t *testing.T) { // 17.2
	q := of(0, 10, 0, 10)
	l := [][]int{nil, {}, {1}, {1, 2, 3}, row(64, 1), row(65, 1)}
	for _, x := range outside() {
		l = append(l, []int{x, 1}, []int{1, x}, []int{x, x})
	}
	for i, v := range l {
		if s, e := Encode(q, v); s != "" || e != api.ErrVector {
			t.Errorf("%d: Encode(%v) = %q, %d", i, v, s, e)
		}
	}
}

func TestDecode(t *testing.T) { // 17.2
	for i, c := range []struct {
		low, high int
		c         byte
		want      int
	}{
		{0, 255, 0, 0}, {0, 255, 7, 7}, {0, 255, 255, 255}, {10, 265, 7, 17},
		{0, 1, 0, 0}, {0, 1, 1, 0}, {0, 1, 254, 0}, {0, 1, 255, 1}, // downwards
		{0, 2, 127, 0}, {0, 2, 128, 1}, {-2, 0, 127, -2}, {-2, 0, 128, -1}, {-1, 0, 254, -1}, {-1, 0, 255, 0},
		{0, 510, 1, 2}, {0, 509, 1, 1}, {0, 509, 255, 509}, {0, 511, 1, 2}, {0, 511, 254, 508}, {0, 511, 128, 256}, // first times, then by
		{5, 5, 0, 5}, {5, 5, 1, 5}, {5, 5, 255, 5}, {-5, -5, 200, -5},
		{-32768, 32767, 0, -32768}, {-32768, 32767, 255, 32767}, {-32768, 32767, 1, -32511}, {-32768, 32767, 127, -129}, {-32768, 32767, 128, 128}, {-32768, 32767, 254, 32510},
	} {
		if v, e := Decode(of(c.low, c.high), string([]byte{c.c})); !slices.Equal(v, []int{c.want}) || e != api.OK {
			t.Errorf("%d: Decode(%d to %d, %d) = %v, %d", i, c.low, c.high, c.c, v, e)
		}
	}
}

func TestDecodeRefuses(t *testing.T) { // 17.2
	for _, s := range []string{"", "a", "abc", "\u00e4b", strings.Repeat("a", 64), strings.Repeat("a", 258)} {
		if v, e := Decode(of(0, 10, 0, 10), s); len(v) != 0 || e != api.ErrVector {
			t.Errorf("Decode(%q) = %v, %d", s, v, e)
		}
	}
	if v, e := Decode(of(0, 255, 0, 255), "\u00e4"); !slices.Equal(v, []int{0xc3, 0xa4}) || e != api.OK { // bytes, not runes
		t.Errorf("Decode = %v, %d", v, e)
	}
	if v, e := Decode(of(0, 255), "\xff"); !slices.Equal(v, []int{255}) || e != api.OK {
		t.Errorf("Decode = %v, %d", v, e)
	}
}

func TestError(t *testing.T) { // 17.2
	for _, c := range [][3]int{{0, 0, 1}, {7, 7, 1}, {-7, -7, 1}, {0, 1, 1}, {0, 254, 1}, {0, 255, 2}, {0, 509, 2}, {0, 510, 3}, {-255, 0, 2}, {-254, 0, 1}, {-1, 254, 2}, {-32768, 32767, 258}, {-32768, 32766, 257}} {
		if l := Error(of(c[0], c[1])); !slices.Equal(l, []int{c[2]}) {
			t.Errorf("Error(%d to %d) = %v", c[0], c[1], l)
		}
	}
}

func TestThereAndBack(t *testing.T) { // 17.4: all values between two that were learnt from
	for _, c := range [][2]int{{0, 0}, {0, 1}, {-1, 1}, {3, 7}, {0, 254}, {0, 255}, {0, 256}, {-300, 209}, {-300, 210}, {-300, 211}, {-1000, 1000}, {-32768, 32767}, {0, 32767}, {-32768, 0}} {
		low, high := c[0], c[1]
		q, e := Train([][]int{{high}, {low}})
		if e != api.OK || !same(q, of(low, high)) {
			t.Fatalf("Train of %v = %v, %d", c, q, e)
		}
		most := Error(q)[0]
		last := 0
		for x := low; x <= high; x++ {
			s, e := Encode(q, []int{x})
			if e != api.OK || len(s) != 1 || int(s[0]) < last {
				t.Fatalf("Encode(%v, %d) = %q, %d", c, x, s, e)
			}
			last = int(s[0])
			v, e := Decode(q, s)
			if e != api.OK || len(v) != 1 || v[0] < low || x-v[0] > most || v[0]-x > most {
				t.Fatalf("of %v: %d became %v, %d", c, x, v, e)
			}
		}
	}
}

func TestMemory(t *testing.T) { // R4
	room := []int{3, 4, 99, 99}
	l := [][]int{room[:2], {5, 1}}
	q, _ := Train(l)
	one, _ := Train(l[:1])
	low, high := append(q.Low, 77), append(q.High, 78)
	low[0], high[1] = 70, 71
	for _, r := range [][]int{one.Low, one.High} {
		r[0] = 80
	}
	if !slices.Equal(one.Low, []int{80, 4}) || !slices.Equal(one.High, []int{80, 4}) || !slices.Equal(room, []int{3, 4, 99, 99}) || !slices.Equal(l[1], []int{5, 1}) {
		t.Errorf("%v, %v, %v", one, room, l)
	}
	if q, _ := Train(l); !same(q, of(3, 5, 1, 4)) {
		t.Errorf("Train once more = %v", q)
	}
	lows, highs := []int{0, 0, 99}, []int{10, 10, 99}
	r := api.Scalar{Low: lows[:2], High: highs[:2]}
	s, _ := Encode(r, room[:2])
	v, _ := Decode(r, s)
	w, _ := Decode(r, s)
	k, m := Error(r), Error(r)
	for _, l := range [][]int{v, k} {
		l = append(l, 55)
		l[0], l[1] = 55, 55
	}
	if !slices.Equal(w, []int{2, 4}) || !slices.Equal(m, []int{1, 1}) || !slices.Equal(room, []int{3, 4, 99, 99}) || !slices.Equal(lows, []int{0, 0, 99}) || !slices.Equal(highs, []int{10, 10, 99}) {
		t.Errorf("%v, %v, %v, %v, %v", w, m, room, lows, highs)
	}
}
