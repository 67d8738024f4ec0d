package filter

import (
	"slices"

	"lodestar/api"
	"lodestar/payload"
)

// maxDepth is how deep a condition is at most.
const maxDepth = 14

// maxEnd is the greatest end of a CondIn, in size.
const maxEnd = 1<<53 - 1

// Check answers what c has against it: ErrCond ahead of ErrField.
func Check(c api.Cond, s api.Schema) api.Errno {
	room := api.MaxConds
	if !formed(c, &room, maxDepth) {
		return api.ErrCond
	}
	if !fits(c, s.Fields) {
		return api.ErrField
	}
	return api.OK
}

// formed tells whether c, with all in it, is no more than room and no deeper than levels, and each of them sound. It stops where room or levels end, however great c is.
func formed(c api.Cond, room *int, levels int) bool {
	*room--
	if *room < 0 || levels == 0 || !sound(c) {
		return false
	}
	for _, part := range c.List {
		if !formed(part, room, levels-1) {
			return false
		}
	}
	return true
}

// sound tells whether c, apart from what stands in its List, says something that may be, and has nothing beside it.
func sound(c api.Cond) bool {
	x := said(c)
	if x == nil || !alike(x.cond(), c) {
		return false
	}
	if x, ok := x.(in); ok {
		return mayEnd(x.low) && mayEnd(x.high)
	}
	return true
}

// mayEnd tells whether n may be an end of a CondIn.
func mayEnd(n int) bool {
	return -maxEnd <= n && n <= maxEnd
}

// fits tells whether the fields are such as c, with all in it, asks for.
func fits(c api.Cond, fields []api.FieldSpec) bool {
	if !suits(said(c), fields) {
		return false
	}
	return !slices.ContainsFunc(c.List, func(part api.Cond) bool { return !fits(part, fields) })
}

// suits is fits of x without what is in it.
func suits(x condition, fields []api.FieldSpec) bool {
	switch x := x.(type) {
	case has:
		_, ok := kindOf(fields, string(x))
		return ok
	case is:
		kind, ok := kindOf(fields, x.name)
		return ok && holds(kind, x.value)
	case in:
		kind, ok := kindOf(fields, x.name)
		return ok && kind == api.KindInt
	}
	return true
}

// kindOf answers the kind of the first field of that name, and whether there is one.
func kindOf(fields []api.FieldSpec, name string) (int, bool) {
	i := slices.IndexFunc(fields, func(f api.FieldSpec) bool { return f.Name == name })
	if i < 0 {
		return 0, false
	}
	return fields[i].Kind, true
}

// holds tells whether a field of that kind may have the value. Layer 5 takes values in points alone: so it is asked of a point that has no other fault.
func holds(kind int, v api.Value) bool {
	s := api.Schema{
		Vectors: []api.VecSpec{{Name: "v", Dim: 1, Metric: api.MetricL2}},
		Fields:  []api.FieldSpec{{Name: "f", Kind: kind}},
	}
	p := api.Point{
		Id:      1,
		Vectors: []api.Vec{{Name: "v", V: []int{0}}},
		Fields:  []api.Field{{Name: "f", Value: v}},
	}
	return payload.Check(s, p) == api.OK
}
