package topk

import "lodestar/api"

// heap is a row of hits of which none is ahead of its parent: that of place i stands at (i-1)/2. So none is ahead of the root, at place 0.
type heap struct {
	ahead func(a, b api.Hit) bool
	rows  []api.Hit
}

// push lays h into the heap.
func (p *heap) push(h api.Hit) {
	p.rows = append(p.rows, h)
	p.rise(len(p.rows) - 1)
}

// replace takes the root away, which there must be, and lays h into the heap.
func (p *heap) replace(h api.Hit) {
	p.rows[0] = h
	p.sink(0)
}

// rise swaps what stands at place i with its parents, as long as it is ahead of them.
func (p *heap) rise(i int) {
	for i > 0 {
		parent := (i - 1) / 2
		if !p.ahead(p.rows[i], p.rows[parent]) {
			return
		}
		p.rows[i], p.rows[parent] = p.rows[parent], p.rows[i]
		i = parent
	}
}

// sink swaps what stands at place i with the foremost of its children, as long as that one is ahead of it.
func (p *heap) sink(i int) {
	for {
		child := 2*i + 1
		if child >= len(p.rows) {
			return
		}
		if child+1 < len(p.rows) && p.ahead(p.rows[child+1], p.rows[child]) {
			child++
		}
		if !p.ahead(p.rows[child], p.rows[i]) {
			return
		}
		p.rows[i], p.rows[child] = p.rows[child], p.rows[i]
		i = child
	}
}
