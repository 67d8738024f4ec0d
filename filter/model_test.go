package filter

import (
	"fmt"
	"math/rand/v2"
	"slices"
	"testing"
	"unicode/utf8"

	"lodestar/api"
)

// copied is c in memory of its own.
func copied(c api.Cond) api.Cond {
	var l []api.Cond
	for _, part := range c.List {
		l = append(l, copied(part))
	}
	c.List = l
	return c
}

// modelValue is the value of the first field of that name, none or one.
func modelValue(p api.Point, name string) []api.Value {
	for _, f := range p.Fields {
		if f.Name == name {
			return []api.Value{f.Value}
		}
	}
	return nil
}

// modelPasses counts which parts pass, by the words of 16.1.
func modelPasses(c api.Cond, p api.Point) bool {
	v, passing := modelValue(p, c.Name), 0
	for _, part := range c.List {
		if modelPasses(part, p) {
			passing++
		}
	}
	all := len(c.List)
	switch c.Kind {
	case 1:
		return true
	case 3:
		return len(v) == 1
	case 4:
		return len(v) == 1 && v[0] == c.Value
	case 5:
		return len(v) == 1 && v[0].Kind == 1 && !(v[0].N < c.Low) && !(v[0].N > c.High)
	case 6:
		return all == 1 && passing == 0
	case 7:
		return passing == all
	case 8:
		return passing > 0
	}
	return false
}

// levels are all conditions in c, from the outer ones on, each level a row.
func levels(c api.Cond) [][]api.Cond {
	var l [][]api.Cond
	for row := []api.Cond{c}; len(row) > 0; {
		l = append(l, row)
		var next []api.Cond
		for _, c := range row {
			next = append(next, c.List...)
		}
		row = next
	}
	return l
}

// named is c's Kind with what it names, alone.
func named(c api.Cond) api.Cond {
	d := api.Cond{Kind: c.Kind}
	if c.Kind >= 3 && c.Kind <= 5 {
		d.Name = c.Name
	}
	if c.Kind == 4 {
		d.Value = c.Value
	}
	if c.Kind == 5 {
		d.Low, d.High = c.Low, c.High
	}
	if c.Kind >= 6 {
		d.List = c.List
	}
	return d
}

// text is all of c as it is told, a List nil or empty alike.
func text(c api.Cond) string {
	s := fmt.Sprintf("%d %q %d %d %q %d %d [", c.Kind, c.Name, c.Value.Kind, c.Value.N, c.Value.Text, c.Low, c.High)
	for _, part := range c.List {
		s += text(part) + ","
	}
	return s + "]"
}

// modelFormed tells whether one condition is formed as 16.3 says.
func modelFormed(c api.Cond) bool {
	const most = 9007199254740991
	if c.Kind < 1 || c.Kind > 8 || text(named(c)) != text(c) {
		return false
	}
	if c.Kind == 5 && (c.Low > most || c.Low < -most || c.High > most || c.High < -most) {
		return false
	}
	return c.Kind != 6 || len(c.List) == 1
}

// modelMayBe tells by the words of chapter 5 whether a field may have v.
func modelMayBe(v api.Value) bool {
	switch v.Kind {
	case api.KindInt:
		return v.Text == "" && v.N >= -4503599627370496 && v.N <= 4503599627370496
	case api.KindWord:
		return v.N == 0 && len(v.Text) <= 256 && utf8.ValidString(v.Text)
	case api.KindBool:
		return v.Text == "" && (v.N == 0 || v.N == 1)
	}
	return false
}

// modelFits tells whether a schema of names that rise has the field of one condition.
func modelFits(c api.Cond, s api.Schema) bool {
	if c.Kind < 3 || c.Kind > 5 {
		return true
	}
	for _, f := range s.Fields {
		if f.Name == c.Name {
			return c.Kind == 3 || c.Kind == 4 && modelMayBe(c.Value) && c.Value.Kind == f.Kind || c.Kind == 5 && f.Kind == api.KindInt
		}
	}
	return false
}

// modelCheck goes over all conditions in c twice.
func modelCheck(c api.Cond, s api.Schema) api.Errno {
	all := slices.Concat(levels(c)...)
	if len(all) > 256 || len(levels(c)) > 14 {
		return api.ErrCond
	}
	for _, c := range all {
		if !modelFormed(c) {
			return api.ErrCond
		}
	}
	for _, c := range all {
		if !modelFits(c, s) {
			return api.ErrField
		}
	}
	return api.OK
}

// modelIds puts each id in its place.
func modelIds(c api.Cond, l []api.Point) []int {
	var found []int
	for _, p := range l {
		at := 0
		for at < len(found) && found[at] < p.Id {
			at++
		}
		if modelPasses(c, p) && (at == len(found) || found[at] != p.Id) {
			found = slices.Insert(found, at, p.Id)
		}
	}
	return found
}

// held wants all calls on c to be the model's.
func held(t *testing.T, c api.Cond, s api.Schema, l []api.Point) {
	t.Helper()
	for _, p := range l {
		if Passes(c, p) != modelPasses(c, p) {
			t.Fatalf("Passes(%v, %v) = %v", c, p.Fields, Passes(c, p))
		}
	}
	if Check(c, s) != modelCheck(c, s) {
		t.Fatalf("Check(%v) = %d, want %d", c, Check(c, s), modelCheck(c, s))
	}
	if all := levels(c); Size(c) != len(slices.Concat(all...)) || Depth(c) != len(all) {
		t.Fatalf("of %v: Size %d, Depth %d", c, Size(c), Depth(c))
	}
	if got := Ids(c, l); !slices.Equal(got, modelIds(c, l)) {
		t.Fatalf("Ids(%v) = %v, want %v", c, got, modelIds(c, l))
	}
	if !Same(c, copied(c)) {
		t.Fatalf("%v is not as it is", c)
	}
}

// lawful wants what 16.5 says of c and p.
func lawful(t *testing.T, d *rand.Rand, c api.Cond, p api.Point) {
	t.Helper()
	if Passes(c, p) == Passes(notOf(c), p) {
		t.Fatalf("%v and Not of it: %v", c, Passes(c, p))
	}
	var nots []api.Cond
	for _, part := range c.List {
		nots = append(nots, notOf(part))
	}
	if Passes(notOf(andOf(c.List...)), p) != Passes(orOf(nots...), p) || Passes(notOf(orOf(c.List...)), p) != Passes(andOf(nots...), p) {
		t.Fatalf("Not of all, or of one, of %v is otherwise than of each", c.List)
	}
	other := slices.Concat(c.List, c.List[:d.IntN(len(c.List)+1)])
	d.Shuffle(len(other), func(i, k int) { other[i], other[k] = other[k], other[i] })
	for _, of := range []func(...api.Cond) api.Cond{andOf, orOf} {
		if Passes(of(c.List...), p) != Passes(of(other...), p) {
			t.Fatalf("%v and %v", c.List, other)
		}
	}
}

// fewPoints have every mixture of a few values, under a few ids.
func fewPoints() []api.Point {
	var l []api.Point
	for i, v := range []api.Value{{}, whole(0), whole(1), whole(2), word(""), word("a"), truth(0), truth(1)} {
		for k, w := range []api.Value{{}, whole(1), word("a")} {
			p := api.Point{Id: (i*5 + k*3) % 7}
			if i > 0 {
				p.Fields = append(p.Fields, field("a", v))
			}
			if k > 0 {
				p.Fields = append(p.Fields, field("b", w))
			}
			l = append(l, p)
		}
	}
	return l
}

// fewSchema has fields of the names of fewPoints.
func fewSchema() api.Schema {
	return api.Schema{Vectors: []api.VecSpec{{Name: "v", Dim: 1, Metric: api.MetricDot}}, Fields: []api.FieldSpec{{Name: "a", Kind: api.KindInt}, {Name: "b", Kind: api.KindWord}, {Name: "c", Kind: api.KindBool}}}
}

// leaves are conditions without parts, of them that are none.
func leaves() []api.Cond {
	return []api.Cond{yes(), no(), hasOf("a"), hasOf("b"), isOf("a", whole(1)), isOf("b", word("a")), isOf("a", truth(1)), inOf("a", 1, 2), inOf("b", 0, 9), inOf("a", 2, 1), {}, hasOf("d"), {Kind: api.CondTrue, High: 1}}
}

func TestAllSmallConditions(t *testing.T) { // 16.1 to 16.5: all of up to two parts in two parts
	d := rand.New(rand.NewPCG(16, 0))
	s, l := fewSchema(), fewPoints()
	over := func(parts []api.Cond) []api.Cond {
		made := []api.Cond{notOf(), andOf(), orOf()}
		for _, a := range parts {
			made = append(made, notOf(a), andOf(a), orOf(a), api.Cond{Kind: 9, List: []api.Cond{a}}, api.Cond{Kind: api.CondHas, Name: "a", List: []api.Cond{a}})
			for _, b := range parts {
				made = append(made, notOf(a, b), andOf(a, b), orOf(a, b))
			}
		}
		return made
	}
	inner := append(leaves(), over(leaves())...)
	for _, c := range inner {
		held(t, c, s, l)
		for _, p := range l {
			lawful(t, d, c, p)
		}
	}
	for _, c := range over(inner[:150]) {
		held(t, c, s, l)
	}
}

func TestSameOfAllSmall(t *testing.T) { // 16.2
	all := append(leaves(), api.Cond{List: []api.Cond{{}}})
	for _, a := range leaves() {
		for _, b := range leaves() {
			all = append(all, andOf(a, b))
		}
		all = append(all, notOf(a), orOf(a, andOf(a)), orOf(andOf(a), a))
	}
	for _, a := range all {
		for _, b := range all {
			if Same(a, b) != (text(a) == text(b)) {
				t.Fatalf("Same(%v, %v) = %v", a, b, Same(a, b))
			}
		}
	}
}

// drawnOf is one of l.
func drawnOf[T any](d *rand.Rand, l ...T) T { return l[d.IntN(len(l))] }

func drawnInt(d *rand.Rand) int {
	const edge = 1 << 53
	return drawnOf(d, d.IntN(5)-2, d.IntN(5)-2, d.IntN(5)-2, edge-d.IntN(3), d.IntN(3)-edge, int(d.Uint64()), 1<<52+d.IntN(2), -1<<52-d.IntN(2), -1<<63, 1<<63-1)
}

func drawnValue(d *rand.Rand) api.Value {
	v := drawnOf(d, whole(d.IntN(4)), whole(drawnInt(d)), word(drawnOf(d, "", "a", "b", "\xff", "\u00fc")), truth(d.IntN(2)), truth(d.IntN(3)))
	if d.IntN(12) == 0 {
		v = api.Value{Kind: d.IntN(6) - 1, N: d.IntN(2), Text: drawnOf(d, "", "a")}
	}
	return v
}

func drawnName(d *rand.Rand) string {
	return drawnOf(d, "a", "a", "b", "b", "c", "d", "")
}

// drawn is a condition of no more levels, often one with a fault if it may have one.
func drawn(d *rand.Rand, deep int, faults bool) api.Cond {
	c := api.Cond{Kind: 1 + d.IntN(8)}
	if deep <= 1 {
		c.Kind = 1 + d.IntN(5)
	}
	switch c.Kind {
	case api.CondHas:
		c.Name = drawnOf(d, "a", "b", "c")
	case api.CondIs:
		x := drawnOf(d, field("a", whole(d.IntN(4))), field("b", word(drawnOf(d, "", "a", "b"))), field("c", truth(d.IntN(2))))
		c.Name, c.Value = x.Name, x.Value
	case api.CondIn:
		c.Name, c.Low, c.High = "a", d.IntN(5)-1, d.IntN(5)-1
	case api.CondNot:
		c.List = []api.Cond{drawn(d, deep-1, faults)}
	case api.CondAnd, api.CondOr:
		for range d.IntN(4) {
			c.List = append(c.List, drawn(d, deep-1, faults))
		}
	}
	if faults && d.IntN(4) == 0 {
		spoil(d, &c)
	}
	return c
}

// spoil changes one thing of c.
func spoil(d *rand.Rand, c *api.Cond) {
	switch d.IntN(8) {
	case 0:
		c.Kind = drawnOf(d, d.IntN(12)-1, drawnInt(d))
	case 1:
		c.Name = drawnName(d)
	case 7:
		if c.Kind >= api.CondHas && c.Kind <= api.CondIn { // so that the field alone may be at fault
			c.Name = drawnName(d)
			c.Value = named(*c).Value
			if c.Kind == api.CondIs {
				c.Value = drawnValue(d)
			}
		}
	case 2:
		c.Value = drawnValue(d)
	case 3:
		c.Low = drawnInt(d)
	case 4:
		c.High = drawnInt(d)
	case 5:
		c.List = append(c.List, drawn(d, 1, true))
	case 6:
		c.List = nil
	}
}

func drawnPoint(d *rand.Rand) api.Point {
	p := api.Point{Id: drawnOf(d, d.IntN(6), drawnInt(d))}
	for range d.IntN(5) {
		p.Fields = append(p.Fields, field(drawnName(d), drawnValue(d)))
	}
	return p
}

func TestDrawn(t *testing.T) { // 16.1 to 16.5
	errors := map[api.Errno]int{}
	for seed := range uint64(30000) {
		d := rand.New(rand.NewPCG(seed, 161))
		c := drawn(d, 1+d.IntN(7), seed%2 == 0)
		var l []api.Point
		for range d.IntN(8) {
			l = append(l, drawnPoint(d))
		}
		held(t, c, fewSchema(), l)
		errors[Check(c, fewSchema())]++
		for _, p := range l {
			lawful(t, d, c, p)
		}
		other := copied(c)
		spoil(d, drawnOf(d, &other, drawnPart(d, &other)))
		if Same(c, other) != (text(c) == text(other)) || Same(other, c) != (text(c) == text(other)) {
			t.Fatalf("Same(%v, %v) = %v", c, other, Same(c, other))
		}
	}
	if errors[api.OK] < 10000 || errors[api.ErrCond] < 1000 || errors[api.ErrField] < 300 {
		t.Errorf("drawn were %v", errors)
	}
}

// drawnPart is one of the conditions in c, or c.
func drawnPart(d *rand.Rand, c *api.Cond) *api.Cond {
	for len(c.List) > 0 && d.IntN(3) > 0 {
		c = &c.List[d.IntN(len(c.List))]
	}
	return c
}

func TestGreatOnesDrawn(t *testing.T) { // 16.3: around the limits of Size and Depth
	errors := map[api.Errno]int{}
	for seed := range uint64(1000) {
		d := rand.New(rand.NewPCG(seed, 162))
		c := yes()
		for range 11 + d.IntN(5) {
			c = drawnOf(d, andOf, orOf, notOf)(c)
		}
		for n := 250 + d.IntN(12); Size(c) < n; {
			at := drawnPart(d, &c)
			if at.Kind >= api.CondAnd {
				at.List = append(at.List, drawnOf(d, yes(), hasOf("a"), andOf(), hasOf("b"), orOf()))
			} else if c.Kind == api.CondNot {
				c = andOf(c)
			}
		}
		held(t, c, fewSchema(), fewPoints()[:2])
		errors[Check(c, fewSchema())]++
	}
	if errors[api.OK] < 100 || errors[api.ErrCond] < 100 {
		t.Errorf("drawn were %v", errors)
	}
}
