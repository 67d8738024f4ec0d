package filter

import "lodestar/api"

// condition is what a Cond says: one of the types below, each with what its Kind names, alone.
type condition interface {
	// cond is the Cond that says just this.
	cond() api.Cond
}

type (
	constant bool
	has      string // the name
	is       struct {
		name  string
		value api.Value
	}
	in struct {
		name      string
		low, high int
	}
	not struct{ part api.Cond }
	and []api.Cond
	or  []api.Cond
)

// said is what c says; nil, if it has no Kind, or is a Not of not just one.
func said(c api.Cond) condition {
	switch c.Kind {
	case api.CondTrue, api.CondFalse:
		return constant(c.Kind == api.CondTrue)
	case api.CondHas:
		return has(c.Name)
	case api.CondIs:
		return is{c.Name, c.Value}
	case api.CondIn:
		return in{c.Name, c.Low, c.High}
	case api.CondNot:
		if len(c.List) == 1 {
			return not{c.List[0]}
		}
	case api.CondAnd:
		return and(c.List)
	case api.CondOr:
		return or(c.List)
	}
	return nil
}

func (x constant) cond() api.Cond {
	if x {
		return api.Cond{Kind: api.CondTrue}
	}
	return api.Cond{Kind: api.CondFalse}
}

func (x has) cond() api.Cond {
	return api.Cond{Kind: api.CondHas, Name: string(x)}
}

func (x is) cond() api.Cond {
	return api.Cond{Kind: api.CondIs, Name: x.name, Value: x.value}
}

func (x in) cond() api.Cond {
	return api.Cond{Kind: api.CondIn, Name: x.name, Low: x.low, High: x.high}
}

func (x not) cond() api.Cond {
	return api.Cond{Kind: api.CondNot, List: []api.Cond{x.part}}
}

func (x and) cond() api.Cond {
	return api.Cond{Kind: api.CondAnd, List: x}
}

func (x or) cond() api.Cond {
	return api.Cond{Kind: api.CondOr, List: x}
}
