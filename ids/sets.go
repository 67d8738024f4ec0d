package ids

import (
	"iter"
	"slices"
)

// Where a number stands that All tells: both together are in both.
const (
	inA = 1
	inB = 2
)

// Has tells whether id stands in l. It looks at one after the other, since l need not rise.
func Has(l []int, id int) bool {
	return slices.Contains(l, id)
}

// Union answers what stands in a or b, rising.
func Union(a, b []int) []int {
	return pick(a, b, inA, inB, inA|inB)
}

// Inter answers what stands in both a and b, rising.
func Inter(a, b []int) []int {
	return pick(a, b, inA|inB)
}

// Diff answers what stands in a and not in b, rising.
func Diff(a, b []int) []int {
	return pick(a, b, inA)
}

// pick answers what stands in a and b in one of the ways that are wanted, rising.
func pick(a, b []int, wanted ...int) []int {
	var l []int
	for id, where := range All(a, b) {
		if slices.Contains(wanted, where) {
			l = append(l, id)
		}
	}
	return l
}

// All goes over what stands in a or b, rising, and tells of each where: 1 in a alone, 2 in b alone, 3 in both. It keeps copies, so that what becomes of a and b later plays no part; they are not changed, so that it may be gone over often.
func All(a, b []int) iter.Seq2[int, int] {
	first, second := rising(a), rising(b)
	return func(yield func(int, int) bool) {
		if yield == nil {
			return
		}
		a, b := first, second
		for len(a)+len(b) > 0 {
			id, where := least(a, b)
			if where&inA != 0 {
				a = a[1:]
			}
			if where&inB != 0 {
				b = b[1:]
			}
			if !yield(id, where) {
				return
			}
		}
	}
}

// least answers the least number of two that rise, of which one has some, and where it stands.
func least(a, b []int) (int, int) {
	switch {
	case len(b) == 0 || len(a) > 0 && a[0] < b[0]:
		return a[0], inA
	case len(a) == 0 || b[0] < a[0]:
		return b[0], inB
	}
	return a[0], inA | inB
}
