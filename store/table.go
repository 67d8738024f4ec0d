package store

import (
	"maps"
	"slices"

	"lodestar/api"
)

// table is the state: what the writes made, one behind the other.
type table struct {
	points map[int]api.Point
	last   int // the number of the last write
}

// get answers the point of that id, and true; else zero and false.
func (t *table) get(id int) (api.Point, bool) {
	p, ok := t.points[id]
	return copied(p), ok
}

// all answers the points, by rising ids.
func (t *table) all() []api.Point {
	var l []api.Point
	for _, id := range slices.Sorted(maps.Keys(t.points)) {
		l = append(l, copied(t.points[id]))
	}
	return l
}

// count answers how many points there are.
func (t *table) count() int { return len(t.points) }

// put lets l be what is newest of its ids: of several of one id the last.
func (t *table) put(l []api.Version) {
	for _, v := range l {
		if v.Gone {
			delete(t.points, v.Point.Id)
		} else {
			t.points[v.Point.Id] = v.Point
		}
	}
}

// copied answers p in new memory.
func copied(p api.Point) api.Point {
	p.Vectors = slices.Clone(p.Vectors)
	for i, x := range p.Vectors {
		p.Vectors[i].V = slices.Clone(x.V)
	}
	p.Fields = slices.Clone(p.Fields)
	return p
}
