package region

import (
	"slices"

	"taquin/api"
	"taquin/floor"
)

// Linked reports whether a region is linked.
func Linked(f api.Floor, r []int) bool {
	parts := Parts(f, r)
	return len(r) == 0 || len(parts) == 1 && Same(parts[0], r)
}

// Parts returns the largest linked regions within a region.
func Parts(f api.Floor, r []int) [][]int {
	var parts [][]int
	back := visit{f, usable(f, r), floor.Back}
	// No other part leads to the one of the cell that was left last: so whatever leads to this cell is in its part. Without this part, the same holds for the cell that was left last then.
	for _, c := range slices.Backward(left(f, r)) {
		if back.open[c] {
			part := back.from(c, nil)
			slices.Sort(part)
			parts = append(parts, part)
		}
	}
	slices.SortFunc(parts, func(a, b []int) int { return a[0] - b[0] })
	return parts
}

// left returns the cells of r that belong to a part, in the order in which visits leave them that follow the steps from each cell.
func left(f api.Floor, r []int) []int {
	on := visit{f, usable(f, r), floor.Next}
	var l []int
	for c := range on.open {
		if on.open[c] {
			l = on.from(c, l)
		}
	}
	return l
}

// Edge returns the cells from which one gets out of a region.
func Edge(f api.Floor, r []int) []int {
	var edge []int
	for _, c := range r {
		if leadsOut(f, r, c) {
			edge = append(edge, c)
		}
	}
	return edge
}

// leadsOut reports whether one gets from c to a cell that is not in r.
func leadsOut(f api.Floor, r []int, c int) bool {
	for d := range api.Dirs {
		if n, ok := floor.Next(f, c, d); ok && !Has(r, n) {
			return true
		}
	}
	return false
}

// Inside returns distances within a region.
func Inside(f api.Floor, r, from []int) []int {
	cells := make([]int, len(f.Kind))
	for c := range cells {
		cells[c] = c
	}
	dist := floor.Dist(f, from, Diff(cells, r))
	inside := make([]int, len(r))
	for i, c := range r {
		inside[i] = -1
		if c < len(dist) {
			inside[i] = dist[c]
		}
	}
	return inside
}

// visit goes to cells, each once.
type visit struct {
	floor api.Floor
	open  []bool // the cells to which it may go, and has not gone yet
	step  func(f api.Floor, c, d int) (int, bool)
}

// from goes to c, and from there as far as steps lead, and appends the cells to l as it leaves them: each one after those to which it led.
func (v visit) from(c int, l []int) []int {
	v.open[c] = false
	for d := range api.Dirs {
		if n, ok := v.step(v.floor, c, d); ok && v.open[n] {
			l = v.from(n, l)
		}
	}
	return append(l, c)
}

// usable says of each cell of the floor whether a way within r may have it.
func usable(f api.Floor, r []int) []bool {
	l := make([]bool, len(f.Kind))
	for _, c := range r {
		if c < len(l) {
			l[c] = f.Kind[c] != api.CWall
		}
	}
	return l
}
