package json

import (
	"math"
	"slices"
	"strings"
	"testing"

	"lodestar/api"
)

// The face of the chapter: each call with its exact signature.
var (
	_ func(string) (api.Json, int, api.Errno) = Parse
	_ func(api.Json) (string, api.Errno)      = Print
	_ func(api.Json) api.Errno                = Check
	_ func(api.Json, api.Json) bool           = Same
	_ func(api.Json, string) (api.Json, bool) = Get
)

func null() api.Json         { return api.Json{Kind: api.JsonNull} }
func truth(n int) api.Json   { return api.Json{Kind: api.JsonBool, N: n} }
func whole(n int) api.Json   { return api.Json{Kind: api.JsonInt, N: n} }
func text(s string) api.Json { return api.Json{Kind: api.JsonText, Text: s} }

func list(l ...api.Json) api.Json { return api.Json{Kind: api.JsonList, List: l} }

// object has the names that stand in a text with blanks between.
func object(names string, l ...api.Json) api.Json {
	return api.Json{Kind: api.JsonObject, Names: strings.Fields(names), List: l}
}

// nested puts j into so many lists.
func nested(j api.Json, times int) api.Json {
	for range times {
		j = list(j)
	}
	return j
}

// nestedNamed puts j into so many objects.
func nestedNamed(j api.Json, times int) api.Json {
	for range times {
		j = object("a", j)
	}
	return j
}

// good are values that may be, no two the same.
func good() []api.Json {
	return []api.Json{
		null(), truth(0), truth(1),
		whole(0), whole(1), whole(-1), whole(1<<53 - 1), whole(-(1<<53 - 1)),
		text(""), text("a"), text("0"), text("null"), text("\x00\x1f \x7f\"\\/\n"), text("\u00fc\u20ac\ufffd\ufffe\U0001f600\U0010ffff"), text("e\u0301"), text("\u00e9"),
		list(), list(null()), list(truth(0)), list(whole(0)), list(list()), list(list(), list()), list(object("")), list(whole(1), whole(2)), list(whole(2), whole(1)),
		object(""), object("a", null()), object("b", null()), object("a", whole(0)), object("a b", whole(1), whole(2)), object("b a", whole(1), whole(2)), object("a b", whole(2), whole(1)), object("b a", whole(2), whole(1)),
		{Kind: api.JsonObject, Names: []string{""}, List: []api.Json{list()}},
		{Kind: api.JsonObject, Names: []string{"\x00\"\u00fc"}, List: []api.Json{object("a", text("b"))}},
		object("a A", object("a", list()), object("a", list())),
		nested(null(), 31), nested(list(), 31), nested(object(""), 31), nestedNamed(whole(7), 31), nestedNamed(object(""), 31),
	}
}

// bad are values that may not be for more than their depth, no two the same.
func bad() []api.Json {
	l := []api.Json{
		{}, {Kind: -1}, {Kind: 7}, {Kind: math.MaxInt}, {Kind: math.MinInt}, {Text: "a"}, {N: 1}, {List: []api.Json{null()}},
		truth(2), truth(-1), truth(math.MaxInt), truth(math.MinInt),
		whole(1 << 53), whole(-(1 << 53)), whole(math.MaxInt), whole(math.MinInt),
		text("\xff"), text("a\xc3"), text("\xed\xa0\x80"), text("\xc0\x80"), text("\xf4\x90\x80\x80"), text("\xe2\x82"),
		object("a"), object("a", null(), null()), object("", null()), object("a b", null()),
		object("a a", null(), null()), object("a b a", null(), truth(0), null()), object("a a", whole(1), whole(2)),
		{Kind: api.JsonObject, Names: []string{"\xff"}, List: []api.Json{null()}},
		{Kind: api.JsonObject, Names: []string{"a", "b\x80"}, List: []api.Json{null(), null()}},
		{Kind: api.JsonObject, Names: []string{"", ""}, List: []api.Json{null(), null()}},
	}
	for _, j := range []api.Json{null(), truth(0), truth(1), whole(5), text("a"), list(null()), object("a", null())} {
		l = append(l, spoilt(j)...)
	}
	for _, part := range slices.Clone(l) {
		l = append(l, list(part), list(null(), part), object("a", part), nested(part, 20), nested(part, 40), object("a b", list(), object("c", list(part))))
	}
	return l
}

// spoilt are the values that have, beside what j has, one thing that its kind does not name.
func spoilt(j api.Json) []api.Json {
	var l []api.Json
	if j.Kind != api.JsonBool && j.Kind != api.JsonInt {
		for _, n := range []int{1, -1, math.MaxInt} {
			with := j
			with.N = n
			l = append(l, with)
		}
	}
	if j.Kind != api.JsonText {
		for _, s := range []string{"a", "\x00", "\xff"} {
			with := j
			with.Text = s
			l = append(l, with)
		}
	}
	if j.Kind != api.JsonObject {
		with := j
		with.Names = []string{""}
		l = append(l, with)
	}
	if j.Kind != api.JsonObject && j.Kind != api.JsonList {
		with := j
		with.List = []api.Json{null()}
		l = append(l, with)
	}
	return l
}

func TestCheckTakes(t *testing.T) { // 3.2
	for _, j := range good() {
		if e := Check(j); e != api.OK {
			t.Errorf("Check(%v) = %d", j, e)
		}
	}
}

func TestCheckRefuses(t *testing.T) { // 3.2
	for _, j := range bad() {
		if e := Check(j); e != api.ErrJson {
			t.Errorf("Check(%v) = %d", j, e)
		}
	}
}

func TestCheckTakesEmptyLists(t *testing.T) { // 3.2, R3: of length 0 is as nil
	for _, j := range good() {
		if len(j.Names) == 0 {
			j.Names = []string{}
		}
		if len(j.List) == 0 {
			j.List = []api.Json{}
		}
		if e := Check(j); e != api.OK {
			t.Errorf("Check(%v) = %d", j, e)
		}
	}
}

func TestCheckOfDepth(t *testing.T) { // 3.2: ErrDeep, if that alone is against it
	for _, x := range []struct {
		j    api.Json
		want api.Errno
	}{
		{nested(null(), 31), api.OK}, {nested(null(), 32), api.ErrDeep}, {nested(null(), 33), api.ErrDeep},
		{nested(list(), 31), api.OK}, {nested(list(), 32), api.ErrDeep},
		{nested(object(""), 31), api.OK}, {nested(object(""), 32), api.ErrDeep},
		{nestedNamed(whole(1), 31), api.OK}, {nestedNamed(whole(1), 32), api.ErrDeep},
		{nested(nestedNamed(text("a"), 16), 15), api.OK}, {nested(nestedNamed(text("a"), 16), 16), api.ErrDeep},
		{list(null(), nested(null(), 30), null()), api.OK}, {list(null(), nested(null(), 31), null()), api.ErrDeep},
		{list(nested(null(), 31), nested(null(), 31)), api.ErrDeep},
		{nested(null(), 1000), api.ErrDeep},
		// What is wrong may stand ahead of the depth, within it, and behind it.
		{nested(truth(2), 31), api.ErrJson}, {nested(truth(2), 32), api.ErrJson}, {nested(truth(2), 100), api.ErrJson}, {nested(api.Json{}, 32), api.ErrJson},
		{list(truth(2), nested(null(), 40)), api.ErrJson}, {list(nested(null(), 40), truth(2)), api.ErrJson},
		{object("a a", nested(null(), 40), null()), api.ErrJson}, {nested(object("a a", null(), null()), 35), api.ErrJson},
		{api.Json{Kind: api.JsonList, N: 1, List: []api.Json{nested(null(), 40)}}, api.ErrJson},
	} {
		if e := Check(x.j); e != x.want {
			t.Errorf("Check(%v) = %d, want %d", x.j, e, x.want)
		}
	}
}

func TestSame(t *testing.T) { // 3.3: of what may not be, too
	l := append(good(), bad()...)
	for i, a := range l {
		for k, b := range append(good(), bad()...) {
			if Same(a, b) != (i == k) {
				t.Errorf("Same(%v, %v) = %v", a, b, i != k)
			}
		}
	}
}

func TestSameOfEmptyLists(t *testing.T) { // 3.3, R3
	empty := api.Json{Kind: api.JsonList, Names: []string{}, List: []api.Json{}}
	if !Same(list(), empty) || !Same(empty, list()) || !Same(object("a", list()), object("a", empty)) || !Same(api.Json{}, api.Json{Names: []string{}}) {
		t.Error("an empty list is another one than nil")
	}
}

func TestSameOfNames(t *testing.T) { // 3.3: in their order
	for _, x := range []struct {
		a, b api.Json
		want bool
	}{
		{object("a b", whole(1), whole(1)), object("a b", whole(1), whole(1)), true},
		{object("a b", whole(1), whole(1)), object("b a", whole(1), whole(1)), false},
		{object("a b", whole(1), whole(2)), object("b a", whole(2), whole(1)), false},
		{object("a", whole(1)), object("a b", whole(1), whole(1)), false},
		{object("a b", whole(1)), object("a", whole(1)), false},
		{list(whole(1)), list(whole(1), whole(1)), false},
		{list(), object(""), false},
		{truth(1), whole(1), false},
		{text("\u00e9"), text("e\u0301"), false},
	} {
		if Same(x.a, x.b) != x.want || Same(x.b, x.a) != x.want {
			t.Errorf("Same(%v, %v) is not %v", x.a, x.b, x.want)
		}
	}
}

func TestGet(t *testing.T) { // 3.3
	j := object("a b c", whole(5), list(null(), object("a", truth(1))), object("d", text("e")))
	for _, x := range []struct {
		j    api.Json
		name string
		want api.Json
		ok   bool
	}{
		{j, "a", whole(5), true}, {j, "b", list(null(), object("a", truth(1))), true}, {j, "c", object("d", text("e")), true},
		{j, "d", api.Json{}, false}, {j, "", api.Json{}, false}, {j, "A", api.Json{}, false}, {j, "ab", api.Json{}, false}, {j, "\xff", api.Json{}, false},
		{object(""), "", api.Json{}, false},
		{api.Json{Kind: api.JsonObject, Names: []string{""}, List: []api.Json{truth(0)}}, "", truth(0), true},
		// Of those that may not be, too: the first such name.
		{object("a b a", whole(1), whole(2), whole(3)), "a", whole(1), true},
		{object("a b", whole(1)), "a", whole(1), true}, {object("a b", whole(1)), "b", api.Json{}, false},
		{object("b a a", null(), whole(2), whole(3)), "a", whole(2), true},
		{object("a"), "a", api.Json{}, false}, {object("a", null(), null()), "b", api.Json{}, false},
		{object("a", truth(7)), "a", truth(7), true},
		{api.Json{Kind: api.JsonObject, Names: []string{"\xff"}, List: []api.Json{null()}}, "\xff", null(), true},
		// Nothing else is an object.
		{null(), "a", api.Json{}, false}, {text("a"), "a", api.Json{}, false}, {list(whole(1)), "a", api.Json{}, false}, {api.Json{}, "", api.Json{}, false},
		{api.Json{Kind: api.JsonList, Names: []string{"a"}, List: []api.Json{whole(1)}}, "a", api.Json{}, false},
		{api.Json{Names: []string{"a"}, List: []api.Json{whole(1)}}, "a", api.Json{}, false},
	} {
		if v, ok := Get(x.j, x.name); !Same(v, x.want) || ok != x.ok {
			t.Errorf("Get(%v, %q) = %v, %v, want %v, %v", x.j, x.name, v, ok, x.want, x.ok)
		}
	}
}

// frozen is j in other memory, with all that lies behind its lists' ends laid into them.
func frozen(j api.Json) api.Json {
	j.Names = slices.Clone(j.Names[:cap(j.Names)])
	j.List = slices.Clone(j.List[:cap(j.List)])
	for i, part := range j.List {
		j.List[i] = frozen(part)
	}
	return j
}

// spoil lays another thing everywhere in the lists of j, behind their ends, too.
func spoil(j api.Json) {
	for _, part := range j.List {
		spoil(part)
	}
	for i := range j.Names[:cap(j.Names)] {
		j.Names[:cap(j.Names)][i] = "spoilt"
	}
	for i := range j.List[:cap(j.List)] {
		j.List[:cap(j.List)][i] = text("spoilt")
	}
}

func TestGetAnswersNewMemory(t *testing.T) { // R4
	fresh := func() api.Json {
		return object("a b", list(whole(1), object("c", list(whole(2)))), object("d e", list(), list(null())))
	}
	for _, name := range []string{"a", "b"} {
		j := fresh()
		v, _ := Get(j, name)
		spoil(v)
		if !Same(j, fresh()) {
			t.Errorf("Get of %q answers what was handed in", name)
		}
		v, _ = Get(j, name)
		spoil(j)
		if want, _ := Get(fresh(), name); !Same(v, want) {
			t.Errorf("Get of %q keeps what was handed in", name)
		}
	}
}

func TestNothingIsChanged(t *testing.T) { // R4: what is handed in, also behind the lists' ends
	for _, j := range append(good(), bad()...) {
		j.Names = append(slices.Clone(j.Names), "behind", "behind")[:len(j.Names)]
		j.List = append(slices.Clone(j.List), text("behind"), text("behind"))[:len(j.List)]
		before := frozen(j)
		Check(j)
		Print(j)
		Same(j, j)
		Get(j, "a")
		if !Same(before, frozen(j)) {
			t.Errorf("%v was changed", j)
		}
	}
}

func TestVeryDeepValues(t *testing.T) { // R1: at all arguments, to the bound
	deep, other := nested(null(), 1<<16-1), nestedNamed(null(), 1<<16-1)
	if e := Check(deep); e != api.ErrDeep {
		t.Errorf("Check: %d", e)
	}
	if s, e := Print(other); s != "" || e != api.ErrDeep {
		t.Errorf("Print: %q, %d", s, e)
	}
	if !Same(deep, nested(null(), 1<<16-1)) || Same(deep, other) || Same(deep, nested(truth(0), 1<<16-1)) {
		t.Error("Same")
	}
	if v, ok := Get(other, "a"); !ok || !Same(v, other.List[0]) {
		t.Error("Get")
	}
}

func TestManyNames(t *testing.T) { // 3.1, 3.2
	j := api.Json{Kind: api.JsonObject}
	for i := range 20000 {
		j.Names = append(j.Names, "n"+strings.Repeat("a", i%7)+string(rune(0x4e00+i)))
		j.List = append(j.List, whole(i))
	}
	s, e := Print(j)
	if e != api.OK {
		t.Fatalf("Print: %d", e)
	}
	if back, _, e := Parse(s); e != api.OK || !Same(back, j) {
		t.Errorf("Parse: %d", e)
	}
	at := len(s)
	if _, place, e := Parse(s[:at-1] + `,"n` + string(rune(0x4e00)) + `":1}`); e != api.ErrTwice || place != at {
		t.Errorf("Parse: %d, %d", place, e)
	}
	j.Names[19999] = j.Names[0]
	if e := Check(j); e != api.ErrJson {
		t.Errorf("Check: %d", e)
	}
}
