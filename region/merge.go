package region

import "iter"

// owners says which of two regions have a cell.
type owners struct{ a, b bool }

// onlyA reports whether the first region has the cell, and the second one has not.
func (o owners) onlyA() bool {
	return o.a && !o.b
}

// merge yields the cells of two regions, each once and in ascending order, with those of both that have it.
func merge(a, b []int) iter.Seq2[int, owners] {
	return func(yield func(int, owners) bool) {
		i, j := 0, 0
		for i < len(a) || j < len(b) {
			inA := j == len(b) || i < len(a) && a[i] <= b[j]
			inB := i == len(a) || j < len(b) && b[j] <= a[i]
			var c int
			if inA {
				c = a[i]
				i++
			}
			if inB {
				c = b[j]
				j++
			}
			if !yield(c, owners{inA, inB}) {
				return
			}
		}
	}
}

// choose returns the region of those cells of two regions whose owners are wanted.
func choose(a, b []int, wanted func(o owners) bool) []int {
	var r []int
	for c, o := range merge(a, b) {
		if wanted(o) {
			r = append(r, c)
		}
	}
	return r
}
