package floor

import (
	"slices"

	"taquin/api"
)

// search is a search for the shortest ways from some cells.
type search struct {
	closed []bool // the cells that are not to be found, or not again
	found  []int  // the cells that were found, in this order
	dist   []int  // the length of the way to each cell; -1 where none was found
	before []int  // the cell before each one on its way; the cell itself where the way begins
}

// Dist returns how far cells are from the nearest of some cells.
func Dist(f api.Floor, from, avoid []int) []int {
	return explore(f, from, avoid).dist
}

// Path returns the least of the shortest ways.
func Path(f api.Floor, a, b int, avoid []int) []int {
	s := explore(f, []int{a}, avoid)
	if !isCell(f, b) || s.dist[b] < 0 {
		return nil
	}
	path := make([]int, s.dist[b]+1)
	for i := range path {
		path[i] = b
		b = s.before[b]
	}
	slices.Reverse(path)
	return path
}

// explore finds all cells to which ways lead. Nearer cells are found earlier, and, from a single cell, those earlier to which the least ways of the same length lead: so the first way that is found to a cell is the least one.
func explore(f api.Floor, from, avoid []int) search {
	s := newSearch(f, avoid)
	for _, c := range from {
		if isCell(f, c) {
			s.find(c, c, 0)
		}
	}
	for i := 0; i < len(s.found); i++ {
		c := s.found[i]
		for d := range api.Dirs {
			if n, ok := Next(f, c, d); ok {
				s.find(n, c, s.dist[c]+1)
			}
		}
	}
	return s
}

// newSearch returns a search that has found nothing yet.
func newSearch(f api.Floor, avoid []int) search {
	n := len(f.Kind)
	s := search{closed: make([]bool, n), dist: slices.Repeat([]int{-1}, n), before: make([]int, n)}
	for c, kind := range f.Kind {
		s.closed[c] = kind == api.CWall
	}
	for _, c := range avoid {
		if isCell(f, c) {
			s.closed[c] = true
		}
	}
	return s
}

// find notes a way to a cell, unless the cell is closed: the cell before it, and the length.
func (s *search) find(c, before, length int) {
	if s.closed[c] {
		return
	}
	s.closed[c] = true
	s.found = append(s.found, c)
	s.dist[c] = length
	s.before[c] = before
}
