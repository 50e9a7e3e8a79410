package disk

import (
	"maps"
	"slices"
)

// queue is a list of sectors, each of them at most once.
type queue struct {
	list []sector
	has  map[sector]bool
}

// newQueue returns a list without sectors.
func newQueue() queue {
	return queue{has: map[sector]bool{}}
}

// clone returns an independent copy.
func (q *queue) clone() queue {
	return queue{slices.Clone(q.list), maps.Clone(q.has)}
}

// add adds a sector at the end, if it is not in the list.
func (q *queue) add(p sector) {
	if !q.has[p] {
		q.has[p] = true
		q.list = append(q.list, p)
	}
}

// take removes the sectors of a file, and returns them.
func (q *queue) take(f int) []sector {
	var taken, left []sector
	for _, p := range q.list {
		if p.file == f {
			taken = append(taken, p)
			delete(q.has, p)
		} else {
			left = append(left, p)
		}
	}
	q.list = left
	return taken
}
