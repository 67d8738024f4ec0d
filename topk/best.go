package topk

import "lodestar/api"

// Best keeps the best k of the hits that are added, each once.
type Best struct {
	metric, k int
	hits      heap                 // the worst one at its root, which is the next to go
	kept      map[api.Hit]struct{} // what hits has: a heap alone cannot say so without being gone through
}

// New answers a Best of nothing; nil, if metric is none, or k is below 1. It takes room as hits come, since k may be any number.
func New(metric, k int) *Best {
	if !known(metric) || k < 1 {
		return nil
	}
	worse := func(a, b api.Hit) bool { return Less(metric, b, a) }
	return &Best{metric: metric, k: k, hits: heap{ahead: worse}, kept: map[api.Hit]struct{}{}}
}

// Add keeps h, and of more than k hits lets the worst go. It answers false, if a hit that is just h is kept, or if k are kept and none of them is worse.
func (b *Best) Add(h api.Hit) bool {
	if b == nil {
		return false
	}
	if _, twice := b.kept[h]; twice {
		return false
	}
	if !b.Full() {
		b.kept[h] = struct{}{}
		b.hits.push(h)
		return true
	}
	worst, ok := b.Worst()
	if !ok || !b.hits.ahead(worst, h) {
		return false
	}
	delete(b.kept, worst)
	b.kept[h] = struct{}{}
	b.hits.replace(h)
	return true
}

// Len answers how many hits are kept.
func (b *Best) Len() int {
	if b == nil {
		return 0
	}
	return len(b.hits.rows)
}

// Full tells whether k hits are kept.
func (b *Best) Full() bool {
	return b != nil && b.Len() == b.k
}

// Worst answers the worst hit that is kept; false, if there is none.
func (b *Best) Worst() (api.Hit, bool) {
	if b.Len() == 0 {
		return api.Hit{}, false
	}
	return b.hits.rows[0], true
}

// List answers all hits that are kept, the better ones first.
func (b *Best) List() []api.Hit {
	if b == nil {
		return nil
	}
	return Sort(b.metric, b.hits.rows)
}
