package means

import (
	"slices"

	"lodestar/api"
	"lodestar/num"
	"lodestar/vector"
)

// learnable tells whether l may be learnt from.
func learnable(l [][]int) bool {
	return len(l) > 0 && areVectors(l, len(l[0]))
}

// areVectors tells whether all of l are vectors of dim components. MetricL2 is asked for, since it takes all vectors.
func areVectors(l [][]int, dim int) bool {
	for _, v := range l {
		if vector.Check(v, dim, api.MetricL2) != api.OK {
			return false
		}
	}
	return true
}

// step is Step of rows and centroids, one of each at least, that together may be learnt from.
func step(l, centroids [][]int) [][]int {
	members := make([][][]int, len(centroids))
	for _, row := range l {
		i := Nearest(row, centroids)
		members[i] = append(members[i], row)
	}
	moved := make([][]int, len(centroids))
	for i, c := range centroids {
		if len(members[i]) > 0 {
			moved[i] = mean(members[i]...)
		} else {
			moved[i] = slices.Clone(c)
		}
	}
	return moved
}

// mean answers the mean of rows, of which there is one at least, downwards in each component.
func mean(rows ...[]int) []int {
	m := make([]int, len(rows[0]))
	column := make([]int, len(rows))
	for i := range m {
		for j, row := range rows {
			column[j] = row[i]
		}
		m[i], _ = num.Div(sum(column...), len(rows)) // no error: there is a row
	}
	return m
}

// sum answers the sum of terms.
func sum(terms ...int) int {
	total := 0
	for _, n := range terms {
		total += n
	}
	return total
}
