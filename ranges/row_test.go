package ranges

import (
	"cmp"
	"slices"
	"strings"
	"testing"
)

func TestRowOfWords(t *testing.T) { // 13.1, the ways: a row is of any type, by any order
	r := rising([]string{"ulm", "bonn", "aachen", "bonn", "rome"}, strings.Compare)
	if !slices.Equal(r.values, []string{"aachen", "bonn", "rome", "ulm"}) {
		t.Fatalf("%q", r.values)
	}
	for _, x := range []struct {
		low, high string
		want      []string
	}{
		{"bonn", "rome", []string{"bonn", "rome"}},
		{"b", "s", []string{"bonn", "rome"}},
		{"bonn", "bonn", []string{"bonn"}},
		{"", "z", []string{"aachen", "bonn", "rome", "ulm"}},
		{"c", "d", nil},
		{"rome", "bonn", nil},
		{"v", "z", nil},
		{"", "a", nil},
	} {
		if l := r.between(x.low, x.high); !slices.Equal(l, x.want) {
			t.Errorf("between(%q, %q) = %q", x.low, x.high, l)
		}
	}
}

func TestRowBackwards(t *testing.T) { // 13.1, the ways
	r := rising([]int{1, 5, 3, 5}, func(a, b int) int { return cmp.Compare(b, a) })
	if !slices.Equal(r.values, []int{5, 3, 1}) || !slices.Equal(r.between(4, 1), []int{3, 1}) || len(r.between(1, 4)) != 0 {
		t.Errorf("%v", r.values)
	}
}

func TestRowAt(t *testing.T) { // 13.1
	r := rising([]int{8, 4, 8}, cmp.Compare[int])
	for i, want := range map[int]int{0: 4, 1: 8} {
		if n, ok := r.at(i); n != want || !ok {
			t.Errorf("at(%d) = %d, %v", i, n, ok)
		}
	}
	for _, i := range []int{-2, -1, 2, 3, 100} {
		if n, ok := r.at(i); n != 0 || ok {
			t.Errorf("at(%d) = %d, %v", i, n, ok)
		}
	}
	if n, ok := (row[int]{}).at(0); n != 0 || ok {
		t.Errorf("of nothing at(0) = %d, %v", n, ok)
	}
}
