package ranges

import "slices"

// row is a rising row: by its order each value stands behind the one ahead. So none stands there twice, and a place is found by halving.
type row[T any] struct {
	order  func(a, b T) int
	values []T
}

// rising answers the row of what stands in l, in memory of its own.
func rising[T any](l []T, order func(a, b T) int) row[T] {
	values := slices.Clone(l)
	slices.SortFunc(values, order)
	alike := func(a, b T) bool { return order(a, b) == 0 }
	return row[T]{order: order, values: slices.CompactFunc(values, alike)}
}

// at answers the value at place i, and true; zero and false, if there is no such place.
func (r row[T]) at(i int) (T, bool) {
	if i < 0 || i >= len(r.values) {
		var none T
		return none, false
	}
	return r.values[i], true
}

// between answers the row's own values from low to high, both with them.
func (r row[T]) between(low, high T) []T {
	from, _ := slices.BinarySearchFunc(r.values, low, r.order)
	to, found := slices.BinarySearchFunc(r.values, high, r.order)
	if found {
		to++
	}
	if from >= to { // nothing lies there, or low stands behind high
		return nil
	}
	return r.values[from:to]
}
