package filter

import (
	"math"
	"slices"
	"strings"
	"testing"

	"lodestar/api"
)

// The face of the chapter: each call with its exact signature.
var (
	_ func(api.Cond, api.Schema) api.Errno = Check
	_ func(api.Cond, api.Point) bool       = Passes
	_ func(api.Cond) int                   = Size
	_ func(api.Cond) int                   = Depth
	_ func(api.Cond, api.Cond) bool        = Same
	_ func(api.Cond, []api.Point) []int    = Ids
)

func whole(n int) api.Value   { return api.Value{Kind: api.KindInt, N: n} }
func word(s string) api.Value { return api.Value{Kind: api.KindWord, Text: s} }
func truth(n int) api.Value   { return api.Value{Kind: api.KindBool, N: n} }

func yes() api.Cond                            { return api.Cond{Kind: api.CondTrue} }
func no() api.Cond                             { return api.Cond{Kind: api.CondFalse} }
func hasOf(name string) api.Cond               { return api.Cond{Kind: api.CondHas, Name: name} }
func notOf(l ...api.Cond) api.Cond             { return api.Cond{Kind: api.CondNot, List: l} }
func andOf(l ...api.Cond) api.Cond             { return api.Cond{Kind: api.CondAnd, List: l} }
func orOf(l ...api.Cond) api.Cond              { return api.Cond{Kind: api.CondOr, List: l} }
func field(name string, v api.Value) api.Field { return api.Field{Name: name, Value: v} }
func point(l ...api.Field) api.Point           { return api.Point{Id: 1, Fields: l} }

func isOf(name string, v api.Value) api.Cond {
	return api.Cond{Kind: api.CondIs, Name: name, Value: v}
}

func inOf(name string, low, high int) api.Cond {
	return api.Cond{Kind: api.CondIn, Name: name, Low: low, High: high}
}

// schema is that of the examples.
func schema() api.Schema {
	return api.Schema{
		Vectors: []api.VecSpec{{Name: "v", Dim: 3, Metric: api.MetricL2}},
		Fields:  []api.FieldSpec{{Name: "city", Kind: api.KindWord}, {Name: "open", Kind: api.KindBool}, {Name: "size", Kind: api.KindInt}},
	}
}

// inUlm is the point of the examples.
func inUlm() api.Point {
	return point(field("city", word("Ulm")), field("size", whole(5)))
}

// within is c in so many Nots.
func within(c api.Cond, nots int) api.Cond {
	for range nots {
		c = notOf(c)
	}
	return c
}

// times are n of c.
func times(c api.Cond, n int) []api.Cond {
	return slices.Repeat([]api.Cond{c}, n)
}

// pass wants p to pass each of l.
func pass(t *testing.T, p api.Point, l ...api.Cond) {
	t.Helper()
	for i, c := range l {
		if !Passes(c, p) {
			t.Errorf("%d: %v does not pass %v", i, p.Fields, c)
		}
	}
}

// fail wants p to pass none of l.
func fail(t *testing.T, p api.Point, l ...api.Cond) {
	t.Helper()
	for i, c := range l {
		if Passes(c, p) {
			t.Errorf("%d: %v passes %v", i, p.Fields, c)
		}
	}
}

// checks wants Check of each of l to be the error.
func checks(t *testing.T, want api.Errno, s api.Schema, l ...api.Cond) {
	t.Helper()
	for i, c := range l {
		if e := Check(c, s); e != want {
			t.Errorf("%d: Check(%.300v) = %d, want %d", i, c, e, want)
		}
	}
}

func TestExamples(t *testing.T) {
	p := inUlm()
	pass(t, p, isOf("city", word("Ulm")), inOf("size", 5, 9), notOf(hasOf("open")), andOf())
	fail(t, p, notOf(inOf("size", 5, 9)), inOf("size", 6, 9), orOf(), isOf("city", whole(5)))
	checks(t, api.ErrField, schema(), isOf("size", word("Ulm")), hasOf("town"))
	checks(t, api.ErrCond, schema(), notOf(yes(), yes()))
}

func TestConstantsAndHas(t *testing.T) { // 16.1
	for _, p := range []api.Point{{}, inUlm(), point(field("", whole(0)))} {
		pass(t, p, yes())
		fail(t, p, no())
	}
	pass(t, point(field("", truth(0))), hasOf(""))
	pass(t, point(field("a", api.Value{})), hasOf("a"))
	pass(t, point(field("b", whole(1)), field("a", whole(2)), field("b", word("x"))), hasOf("a"), hasOf("b"))
	fail(t, inUlm(), hasOf("open"), hasOf(""), hasOf("cit"), hasOf("City"), hasOf("city "), hasOf("Ulm"))
	// Vectors and the Id are no fields.
	fail(t, api.Point{Id: 1, Vectors: []api.Vec{{Name: "v", V: []int{1}}}}, hasOf("v"), hasOf("Id"), inOf("v", -9, 9))
}

func TestIs(t *testing.T) { // 16.1: all of the value, also where it may not be
	for i, v := range []api.Value{whole(5), whole(0), whole(math.MinInt), whole(math.MaxInt), word(""), word("Ulm"), word("\xff"), truth(0), truth(1), {}, {Kind: 9, N: 2, Text: "x"}, {Kind: api.KindInt, N: 5, Text: "Ulm"}, {Kind: -1}} {
		p := point(field("x", v))
		pass(t, p, isOf("x", v))
		fail(t, p, isOf("y", v), isOf("", v))
		for _, w := range []api.Value{
			{Kind: v.Kind + 1, N: v.N, Text: v.Text}, {Kind: v.Kind, N: v.N ^ 1, Text: v.Text}, {Kind: v.Kind, N: v.N, Text: v.Text + "x"}, {Kind: v.Kind, N: -v.N - 1, Text: v.Text},
		} {
			fail(t, p, isOf("x", w))
			if Passes(isOf("x", v), point(field("x", w))) {
				t.Errorf("%d: %v passes Is %v", i, w, v)
			}
		}
	}
	// The zero value of a point without the field is none.
	fail(t, api.Point{}, isOf("x", api.Value{}), isOf("", api.Value{}))
	// The first field of a name counts.
	p := point(field("x", whole(1)), field("x", whole(2)))
	pass(t, p, isOf("x", whole(1)), inOf("x", 1, 1))
	fail(t, p, isOf("x", whole(2)), inOf("x", 2, 2))
}

func TestIn(t *testing.T) { // 16.1: both ends count
	for _, x := range []struct {
		low, high int
		in, out   []int
	}{
		{5, 9, []int{5, 6, 8, 9}, []int{4, 10, -5, -9, 0, math.MinInt, math.MaxInt}},
		{5, 5, []int{5}, []int{4, 6}},
		{9, 5, nil, []int{4, 5, 7, 9, 10}},
		{-3, 2, []int{-3, -1, 0, 2}, []int{-4, 3}},
		{0, 0, []int{0}, []int{-1, 1}},
		{math.MinInt, math.MaxInt, []int{math.MinInt, -1, 0, 1, math.MaxInt}, nil},
		{math.MaxInt, math.MaxInt, []int{math.MaxInt}, []int{math.MinInt, math.MaxInt - 1}},
		{math.MinInt, math.MinInt, []int{math.MinInt}, []int{math.MaxInt, math.MinInt + 1}},
		{math.MaxInt, math.MinInt, nil, []int{math.MinInt, 0, math.MaxInt}},
	} {
		c := inOf("x", x.low, x.high)
		for _, n := range x.in {
			pass(t, point(field("x", whole(n))), c)
			pass(t, point(field("x", api.Value{Kind: api.KindInt, N: n, Text: "a"})), c)
			// Neither another kind nor another name has a number between.
			fail(t, point(field("x", truth(n))), c)
			fail(t, point(field("x", api.Value{Kind: api.KindWord, N: n})), c)
			fail(t, point(field("x", api.Value{N: n})), c)
			fail(t, point(field("y", whole(n))), c)
		}
		for _, n := range x.out {
			fail(t, point(field("x", whole(n))), c)
		}
		fail(t, api.Point{}, c)
	}
}

func TestNotAndOr(t *testing.T) { // 16.1
	p := inUlm()
	is, isNot := isOf("city", word("Ulm")), isOf("city", word("Bonn"))
	pass(t, p, notOf(isNot), notOf(no()), notOf(notOf(is)), notOf(hasOf("town")))
	fail(t, p, notOf(is), notOf(yes()), notOf(notOf(isNot)))
	// A Not has just one; a part that is no condition is not passed.
	fail(t, p, notOf(), notOf(isNot, isNot), notOf(is, isNot), notOf(isNot, is), notOf(no(), no(), no()))
	pass(t, p, notOf(notOf()), notOf(notOf(is, is)), notOf(api.Cond{}))
	pass(t, p, andOf(), andOf(is), andOf(is, is, yes()), andOf(is, orOf(isNot, is)))
	fail(t, p, andOf(isNot), andOf(is, isNot), andOf(isNot, is), andOf(is, is, no()), andOf(api.Cond{}), andOf(is, notOf()))
	pass(t, p, orOf(is), orOf(is, isNot), orOf(isNot, is), orOf(no(), no(), yes()), orOf(api.Cond{}, is), orOf(andOf()))
	fail(t, p, orOf(), orOf(isNot), orOf(isNot, no()), orOf(api.Cond{}), orOf(notOf(), notOf(no(), no())))
}

// cluttered is c with something in all that its Kind does not name.
func cluttered(c api.Cond) []api.Cond {
	names := c.Kind == api.CondHas || c.Kind == api.CondIs || c.Kind == api.CondIn
	var l []api.Cond
	add := func(change func(*api.Cond)) {
		d := c
		change(&d)
		l = append(l, d)
	}
	if !names {
		add(func(d *api.Cond) { d.Name = "size" })
	}
	if c.Kind != api.CondIs {
		add(func(d *api.Cond) { d.Value.Kind = api.KindInt })
		add(func(d *api.Cond) { d.Value.N = 1 })
		add(func(d *api.Cond) { d.Value.Text = "x" })
	}
	if c.Kind != api.CondIn {
		add(func(d *api.Cond) { d.Low = 1 })
		add(func(d *api.Cond) { d.High = -1 })
		add(func(d *api.Cond) { d.Low, d.High = math.MinInt, math.MaxInt })
	}
	if c.Kind != api.CondNot && c.Kind != api.CondAnd && c.Kind != api.CondOr {
		add(func(d *api.Cond) { d.List = []api.Cond{no()} })
		add(func(d *api.Cond) { d.List = []api.Cond{yes(), {}} })
	}
	return l
}

func TestWhatIsNotNamedPlaysNoPart(t *testing.T) { // 16.1, but 16.3 refuses it
	for _, p := range []api.Point{inUlm(), {}} {
		for _, c := range []api.Cond{yes(), no(), hasOf("city"), isOf("city", word("Ulm")), inOf("size", 4, 6), notOf(hasOf("city")), andOf(hasOf("size")), orOf(hasOf("size")), andOf(), orOf()} {
			want := Passes(c, p)
			checks(t, api.OK, schema(), c)
			for _, d := range cluttered(c) {
				if Passes(d, p) != want {
					t.Errorf("%v passes %v, but not %v, or the other way", p.Fields, c, d)
				}
				checks(t, api.ErrCond, schema(), d, notOf(d), andOf(yes(), d), orOf(d, yes()))
				if Same(c, d) || Same(d, c) || Same(andOf(c), andOf(d)) {
					t.Errorf("%v is %v", c, d)
				}
			}
		}
	}
}

// noKinds are numbers of no kind of condition.
func noKinds() []int {
	return []int{0, 9, 10, -1, -7, 256 + api.CondTrue, math.MinInt, math.MaxInt}
}

func TestOtherKinds(t *testing.T) { // 16.1, 16.3
	p := inUlm()
	for _, kind := range noKinds() {
		for _, c := range []api.Cond{{}, hasOf("city"), isOf("city", word("Ulm")), inOf("size", 5, 5), notOf(no()), andOf(yes()), orOf(yes()), andOf()} {
			c.Kind = kind
			fail(t, p, c)
			checks(t, api.ErrCond, schema(), c, notOf(c), andOf(yes(), c), orOf(c))
		}
	}
}

func TestSizeAndDepth(t *testing.T) { // 16.2: of all Lists, whatever the Kind
	for i, x := range []struct {
		c           api.Cond
		size, depth int
	}{
		{api.Cond{}, 1, 1}, {yes(), 1, 1}, {andOf(), 1, 1}, {notOf(), 1, 1}, {api.Cond{Kind: api.CondAnd, List: []api.Cond{}}, 1, 1},
		{notOf(yes()), 2, 2}, {andOf(yes(), no()), 3, 2}, {andOf(yes(), yes(), yes()), 4, 2},
		{orOf(notOf(notOf(yes())), no()), 5, 4}, {orOf(no(), notOf(notOf(yes()))), 5, 4}, {andOf(no(), notOf(yes()), no()), 5, 3},
		{notOf(yes(), andOf(yes(), yes())), 5, 3},
		{api.Cond{Kind: api.CondTrue, List: times(yes(), 3)}, 4, 2}, {api.Cond{List: times(notOf(yes()), 3)}, 7, 3}, {api.Cond{Kind: api.CondIs, List: []api.Cond{{Kind: -1, List: []api.Cond{{}}}}}, 3, 3},
		{andOf(times(yes(), 1000)...), 1001, 2}, {within(yes(), 5000), 5001, 5001},
	} {
		if Size(x.c) != x.size || Depth(x.c) != x.depth {
			t.Errorf("%d: Size %d, Depth %d, want %d, %d", i, Size(x.c), Depth(x.c), x.size, x.depth)
		}
	}
}

func TestSame(t *testing.T) { // 16.2
	all := []api.Cond{
		{}, {Kind: 1}, {Kind: 2}, {Kind: -1}, {Name: "a"}, {Name: "b"}, {Value: whole(0)}, {Value: api.Value{N: 1}}, {Value: api.Value{Text: "a"}}, {Low: 1}, {High: 1}, {Low: -1}, {Low: 1, High: 1},
		{List: times(api.Cond{}, 1)}, {List: times(api.Cond{}, 2)}, {List: times(yes(), 1)}, {List: times(yes(), 2)},
		yes(), notOf(), andOf(), orOf(), andOf(hasOf("a"), hasOf("b")), andOf(hasOf("b"), hasOf("a")), orOf(hasOf("a"), hasOf("b")), andOf(hasOf("a"), hasOf("a")), andOf(hasOf("a")), andOf(hasOf("b")),
		andOf(andOf(hasOf("a")), hasOf("b")), andOf(andOf(hasOf("a"), hasOf("b"))), andOf(hasOf("a"), andOf(hasOf("b"))), andOf(andOf(hasOf("a")), andOf(hasOf("b"))),
		isOf("a", whole(1)), isOf("a", word("1")), isOf("a", truth(1)), inOf("a", 1, 2), inOf("a", 2, 1), inOf("b", 1, 2), notOf(inOf("a", 1, 2)), notOf(notOf(inOf("a", 1, 2))),
	}
	for i, a := range all {
		for k, b := range all {
			want := i == k || a.Kind == api.CondTrue && b.Kind == api.CondTrue
			if Same(a, copied(b)) != want || Same(andOf(no(), a), andOf(no(), b)) != want {
				t.Errorf("Same(%v, %v) = %v", a, b, Same(a, b))
			}
		}
	}
	if !Same(api.Cond{Kind: api.CondAnd, List: []api.Cond{}}, andOf()) || !Same(andOf(), api.Cond{Kind: api.CondAnd, List: make([]api.Cond, 0, 3)}) { // R3
		t.Error("an empty List is not one that is nil")
	}
	if !Same(within(hasOf("a"), 3000), within(hasOf("a"), 3000)) || Same(within(hasOf("a"), 3000), within(hasOf("b"), 3000)) || Same(within(yes(), 3000), within(yes(), 2999)) {
		t.Error("of deep ones")
	}
}

func TestCheckSizeAndDepth(t *testing.T) { // 16.3
	checks(t, api.OK, schema(), andOf(times(yes(), 255)...), orOf(times(notOf(yes()), 127)...), within(yes(), 13), within(hasOf("city"), 13), within(andOf(times(yes(), 242)...), 12), within(andOf(), 13), andOf(yes(), within(yes(), 12)))
	checks(t, api.ErrCond, schema(), andOf(times(yes(), 256)...), orOf(times(notOf(yes()), 128)...), within(yes(), 14), within(hasOf("town"), 14), within(andOf(times(yes(), 243)...), 13), within(andOf(), 14), andOf(yes(), within(yes(), 13)), andOf(within(yes(), 13), yes()))
	checks(t, api.ErrCond, schema(), within(andOf(times(yes(), 244)...), 12), andOf(times(yes(), 100000)...), within(yes(), 50000), orOf(andOf(times(no(), 128)...), andOf(times(no(), 128)...)))
	checks(t, api.OK, schema(), orOf(andOf(times(no(), 126)...), andOf(times(no(), 127)...)))
	// What is deeper than memory has room for, and what has no end, is refused at once.
	twice := yes()
	for range 60 {
		twice = andOf(twice, twice)
	}
	endless := andOf(yes(), no())
	endless.List[1] = endless
	checks(t, api.ErrCond, schema(), twice, endless)
}

func TestCheckForms(t *testing.T) { // 16.3
	checks(t, api.ErrCond, schema(), notOf(), notOf(no(), no()), notOf(times(no(), 3)...), andOf(notOf()), orOf(yes(), notOf(yes(), yes())), notOf(notOf()))
	checks(t, api.OK, schema(), yes(), no(), andOf(), orOf(), notOf(yes()), andOf(yes()), orOf(no(), andOf(), hasOf("open")))
	const most = 1<<53 - 1
	for _, x := range []struct {
		low, high int
		want      api.Errno
	}{
		{0, 0, api.OK}, {9, 5, api.OK}, {-most, most, api.OK}, {most, -most, api.OK}, {most, most, api.OK}, {-most, -most, api.OK},
		{-most - 1, 0, api.ErrCond}, {most + 1, most, api.ErrCond}, {0, most + 1, api.ErrCond}, {-most, -most - 1, api.ErrCond},
		{math.MinInt, 0, api.ErrCond}, {math.MaxInt, 0, api.ErrCond}, {0, math.MinInt, api.ErrCond}, {0, math.MaxInt, api.ErrCond}, {math.MinInt, math.MaxInt, api.ErrCond},
	} {
		c := inOf("size", x.low, x.high)
		checks(t, x.want, schema(), c, notOf(c), andOf(yes(), c), within(c, 13))
		if x.want == api.ErrCond { // it comes ahead of the field's error
			c.Name = "town"
			checks(t, api.ErrCond, schema(), c)
		}
	}
}

func TestCheckFields(t *testing.T) { // 16.3
	s := schema()
	longest := strings.Repeat("a", api.MaxWord)
	good := []api.Cond{
		hasOf("city"), hasOf("open"), hasOf("size"), inOf("size", 1, 2),
		isOf("city", word("")), isOf("city", word("\u00fc")), isOf("city", word(longest)), isOf("open", truth(0)), isOf("open", truth(1)), isOf("size", whole(0)), isOf("size", whole(api.MaxId)), isOf("size", whole(-api.MaxId)),
	}
	bad := []api.Cond{
		hasOf(""), hasOf("town"), hasOf("v"), hasOf("City"), hasOf("cit"), hasOf("citys"), inOf("", 0, 0), inOf("town", 1, 2), inOf("city", 1, 2), inOf("open", 0, 1), inOf("v", 0, 0),
		isOf("town", word("Ulm")), isOf("", word("Ulm")), isOf("city", whole(5)), isOf("city", truth(1)), isOf("open", whole(1)), isOf("open", word("true")), isOf("size", word("5")), isOf("size", truth(1)),
		isOf("city", word(longest+"a")), isOf("city", word("\xff")), isOf("city", word("a\xc3")), isOf("city", api.Value{Kind: api.KindWord, N: 1, Text: "Ulm"}),
		isOf("open", truth(2)), isOf("open", truth(-1)), isOf("open", api.Value{Kind: api.KindBool, N: 1, Text: "x"}),
		isOf("size", whole(api.MaxId+1)), isOf("size", whole(-api.MaxId-1)), isOf("size", whole(math.MinInt)), isOf("size", whole(math.MaxInt)), isOf("size", api.Value{Kind: api.KindInt, Text: "5"}),
		isOf("size", api.Value{}), isOf("city", api.Value{}), isOf("open", api.Value{Kind: 4}), isOf("size", api.Value{Kind: -1}), isOf("size", api.Value{Kind: math.MaxInt}),
	}
	checks(t, api.OK, s, good...)
	checks(t, api.ErrField, s, bad...)
	for _, c := range bad { // anywhere; what is no condition comes ahead, wherever it stands
		checks(t, api.ErrField, s, notOf(c), andOf(yes(), c), orOf(c, yes()), within(c, 13), andOf(append(times(yes(), 254), c)...))
		checks(t, api.ErrCond, s, andOf(c, api.Cond{}), andOf(api.Cond{}, c), orOf(c, notOf()), within(c, 14), andOf(append(times(yes(), 255), c)...))
	}
	checks(t, api.OK, s, andOf(good...), orOf(notOf(good[0]), andOf(good[1:]...)))
}

func TestCheckOfOtherSchemas(t *testing.T) { // 16.3: no more of a schema is asked than which kinds its fields have
	checks(t, api.OK, api.Schema{}, yes(), andOf(notOf(no())))
	checks(t, api.ErrField, api.Schema{}, hasOf("city"), hasOf(""), inOf("size", 0, 0), isOf("size", whole(1)), andOf(yes(), notOf(hasOf("city"))))
	odd := api.Schema{Fields: []api.FieldSpec{{Name: "z", Kind: api.KindInt}, {Name: "a", Kind: api.KindWord}, {Name: "", Kind: api.KindBool}, {Name: "z", Kind: api.KindWord}, {Name: "k", Kind: 9}, {Name: "n"}}}
	checks(t, api.OK, odd, hasOf("z"), hasOf("a"), hasOf(""), hasOf("k"), isOf("z", whole(1)), isOf("a", word("x")), isOf("", truth(1)), inOf("z", 1, 2))
	checks(t, api.ErrField, odd, isOf("z", word("x")), isOf("k", api.Value{Kind: 9}), isOf("k", whole(1)), isOf("n", api.Value{}), isOf("n", whole(0)), inOf("k", 1, 2), inOf("n", 0, 0), inOf("a", 0, 0))
	checks(t, api.ErrCond, api.Schema{}, api.Cond{}, notOf(hasOf("city"), yes()))
}

func TestIds(t *testing.T) { // 16.4
	at := func(id, n int) api.Point { return api.Point{Id: id, Fields: []api.Field{field("x", whole(n))}} }
	few := inOf("x", 1, 5)
	for i, x := range []struct {
		c    api.Cond
		l    []api.Point
		want []int
	}{
		{few, nil, nil},
		{few, []api.Point{at(9, 1), at(2, 5), at(4, 6), at(3, 3)}, []int{2, 3, 9}},
		{few, []api.Point{at(2, 1), at(2, 2), at(1, 3), at(2, 5)}, []int{1, 2}},
		{few, []api.Point{at(2, 1), at(2, 9)}, []int{2}},
		{few, []api.Point{at(2, 9), at(2, 1)}, []int{2}},
		{few, []api.Point{at(2, 9), at(1, 0)}, nil},
		{yes(), []api.Point{at(math.MaxInt, 0), at(0, 0), at(math.MinInt, 0), at(-1, 0), {}}, []int{math.MinInt, -1, 0, math.MaxInt}},
		{no(), []api.Point{at(1, 1)}, nil}, {api.Cond{}, []api.Point{at(1, 1)}, nil}, {notOf(yes(), yes()), []api.Point{at(1, 1)}, nil},
		{notOf(hasOf("x")), []api.Point{at(1, 1), {Id: 8}}, []int{8}},
	} {
		if l := Ids(x.c, x.l); !slices.Equal(l, x.want) {
			t.Errorf("%d: Ids = %v, want %v", i, l, x.want)
		}
	}
	var l []api.Point
	var want []int
	for i := range 3000 {
		l = append(l, at(i*7%3000, i*7%3000))
		if i <= 9 {
			want = append(want, i)
		}
	}
	if got := Ids(inOf("x", -5, 9), l); !slices.Equal(got, want) {
		t.Errorf("Ids of many: %v", got)
	}
}

func TestDeepOnesEnd(t *testing.T) { // R1, to the bound of 2^16 parts within one another
	c := within(hasOf("city"), 1<<16-2)
	pass(t, inUlm(), c)
	fail(t, inUlm(), notOf(c))
	if Size(c) != 1<<16-1 || Depth(c) != 1<<16-1 || !Same(c, c) || Check(c, schema()) != api.ErrCond {
		t.Error("Size, Depth, Same, Check")
	}
	wide := andOf(times(hasOf("city"), 200000)...)
	pass(t, inUlm(), wide, orOf(notOf(wide), wide))
	fail(t, api.Point{}, wide)
}

func TestNothingIsChanged(t *testing.T) { // R4: also behind an end
	list := append(make([]api.Cond, 0, 5), notOf(hasOf("open")), inOf("size", 1, 9), isOf("city", word("Ulm")), no(), api.Cond{Kind: 77, Name: "behind"})
	c := api.Cond{Kind: api.CondAnd, List: list[:3]}
	fields := append(make([]api.Field, 0, 3), inUlm().Fields...)
	fields = append(fields, field("behind", whole(1)))[:2]
	l := []api.Point{{Id: 3, Fields: fields}, {Id: 2, Fields: fields}, {Id: 3, Fields: fields}, {Id: 1}}
	s := schema()
	before := slices.Clone(list)
	points := slices.Clone(l)
	for range 2 { // R5
		if Check(c, s) != api.OK || !Passes(c, l[0]) || Size(c) != 5 || Depth(c) != 3 || !Same(c, c) || !slices.Equal(Ids(c, l[:3]), []int{2, 3}) {
			t.Error("another answer")
		}
	}
	if !slices.EqualFunc(list, before, Same) || fields[:3][2] != field("behind", whole(1)) || !slices.EqualFunc(l, points, func(a, b api.Point) bool { return a.Id == b.Id && slices.Equal(a.Fields, b.Fields) }) {
		t.Error("what was handed in is changed")
	}
	if got, want := s, schema(); !slices.Equal(got.Fields, want.Fields) || !slices.Equal(got.Vectors, want.Vectors) {
		t.Error("the schema is changed")
	}
	a, b := Ids(c, l), Ids(c, l)
	a[0] = 99
	if b[0] != 2 {
		t.Error("two answers share memory")
	}
}
