package scalar

import (
	"slices"

	"lodestar/api"
	"lodestar/topk"
	"lodestar/vector"
)

// candidate is an item with its rough hit.
type candidate struct {
	hit  api.Hit
	item api.Item
}

// Search answers the true hits of those items whose rough ones are the first budget; ErrTrain, if q may not be; ErrVector, if vector.Check refuses v or an item.
func Search(metric int, q api.Scalar, v []int, items []api.Item, budget int) ([]api.Hit, api.Errno) {
	spans, ok := spansOf(q)
	if !ok {
		return nil, api.ErrTrain
	}
	dim := len(spans)
	if vector.Check(v, dim, metric) != api.OK {
		return nil, api.ErrVector
	}
	for _, item := range items {
		if vector.Check(item.V, dim, metric) != api.OK {
			return nil, api.ErrVector
		}
	}
	return rescore(metric, v, first(metric, rough(metric, spans, v, items), budget)), api.OK
}

// rough answers each item with the hit of what is left of it by its code.
func rough(metric int, spans []span, v []int, items []api.Item) []candidate {
	l := make([]candidate, len(items))
	for i, item := range items {
		left := decode(spans, encode(spans, item.V))
		// MetricCos refuses what became all 0; Score answers 0 beside its error, as is asked for.
		score, _ := vector.Score(metric, v, left)
		l[i] = candidate{api.Hit{Id: item.Id, Score: score}, item}
	}
	return l
}

// first answers the budget of l with the best hits. Of equal hits, whose items may differ, those that came first go ahead.
func first(metric int, l []candidate, budget int) []candidate {
	slices.SortStableFunc(l, func(a, b candidate) int {
		switch {
		case topk.Less(metric, a.hit, b.hit):
			return -1
		case topk.Less(metric, b.hit, a.hit):
			return 1
		}
		return 0
	})
	return l[:min(max(budget, 0), len(l))]
}

// rescore answers the true hits of the items of l, sorted.
func rescore(metric int, v []int, l []candidate) []api.Hit {
	hits := make([]api.Hit, len(l))
	for i, c := range l {
		score, _ := vector.Score(metric, v, c.item.V) // no error: both were checked
		hits[i] = api.Hit{Id: c.item.Id, Score: score}
	}
	return topk.Sort(metric, hits)
}
