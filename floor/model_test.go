package floor

import (
	"math/rand"
	"slices"
	"testing"

	"taquin/api"
)

// spot is the place of a cell: x, y and z.
type spot [3]int

// model is a floor as the definitions of the chapter have it, without regard to how long it takes.
type model struct {
	floor api.Floor
	spots []spot
	cells map[spot]int
}

func newModel(f api.Floor) *model {
	m := &model{f, nil, map[spot]int{}}
	for z := 0; z < f.D; z++ {
		for y := 0; y < f.H; y++ {
			for x := 0; x < f.W; x++ {
				m.cells[spot{x, y, z}] = len(m.spots)
				m.spots = append(m.spots, spot{x, y, z})
			}
		}
	}
	return m
}

// neighbour returns the neighbour of a cell.
func (m *model) neighbour(c, d int) (int, bool) {
	if c < 0 || c >= len(m.spots) {
		return 0, false
	}
	s := m.spots[c]
	switch d {
	case api.East:
		s[0]++
	case api.South:
		s[1]++
	case api.West:
		s[0]--
	case api.North:
		s[1]--
	case api.Up:
		s[2]++
	case api.Down:
		s[2]--
	default:
		return 0, false
	}
	n, ok := m.cells[s]
	return n, ok
}

// next returns the cell to which one gets.
func (m *model) next(c, d int) (int, bool) {
	n, ok := m.neighbour(c, d)
	if !ok || !hasBit(m.floor.Out[c], d) {
		return 0, false
	}
	from, to := m.floor.Kind[c], m.floor.Kind[n]
	if from == api.CWall || to == api.CWall {
		return 0, false
	}
	if (d == api.Up || d == api.Down) && (from != api.CLift || to != api.CLift) {
		return 0, false
	}
	return n, true
}

// hasBit reports whether 2 to the power of d is one of the powers of 2 that n is the sum of.
func hasBit(n, d int) bool {
	for range d {
		n /= 2
	}
	return n%2 == 1
}

// back returns the cell from which one gets to c: the one of all from which next leads there.
func (m *model) back(c, d int) (int, bool) {
	for a := range m.spots {
		if n, ok := m.next(a, d); ok && n == c {
			return a, true
		}
	}
	return 0, false
}

func (m *model) near(a, b int) bool {
	for d := api.East; d <= api.North; d++ {
		n, ok := m.neighbour(a, d)
		k, other := m.neighbour(b, d)
		if ok && n == b || other && k == a {
			return true
		}
	}
	return false
}

// usable reports whether a way may have the cell.
func (m *model) usable(c int, avoid []int) bool {
	return c >= 0 && c < len(m.spots) && m.floor.Kind[c] != api.CWall && !slices.Contains(avoid, c)
}

// dist makes distances less, as long as a step does so.
func (m *model) dist(from, avoid []int) []int {
	far := len(m.spots)
	l := slices.Repeat([]int{far}, far)
	for c := range l {
		if m.usable(c, avoid) && slices.Contains(from, c) {
			l[c] = 0
		}
	}
	for less := true; less; {
		less = false
		for c := range l {
			for d := range 6 {
				if n, ok := m.next(c, d); ok && m.usable(n, avoid) && l[c]+1 < l[n] {
					l[n], less = l[c]+1, true
				}
			}
		}
	}
	for c := range l {
		if l[c] == far {
			l[c] = -1
		}
	}
	return l
}

// path looks for the shortest way by all lists of directions: the shorter ones first, and those of one length in order.
func (m *model) path(a, b int, avoid []int) []int {
	if !m.usable(a, avoid) {
		return nil
	}
	for length := range m.spots {
		if way := m.way(a, b, length, avoid); way != nil {
			return way
		}
	}
	return nil
}

// way returns the first way of a length.
func (m *model) way(a, b, length int, avoid []int) []int {
	if length == 0 && a == b {
		return []int{a}
	}
	for d := 0; length > 0 && d < 6; d++ {
		if n, ok := m.next(a, d); ok && m.usable(n, avoid) {
			if rest := m.way(n, b, length-1, avoid); rest != nil {
				return slices.Concat([]int{a}, rest)
			}
		}
	}
	return nil
}

// expectAll compares all that can be asked about single cells with a model, and checks that Next and Back are inverse to each other (P7.7).
func expectAll(t *testing.T, f api.Floor) {
	t.Helper()
	expectRight(t, "all", f, true)
	m := newModel(f)
	for c := -1; c <= len(m.spots); c++ {
		for d := -1; d <= 6; d++ {
			n, ok := Next(f, c, d)
			if want, wanted := m.next(c, d); n != want || ok != wanted {
				t.Fatalf("Next %d %d: %d, %t instead of %d, %t: %s", c, d, n, ok, want, wanted, describe(f))
			}
			p, led := Back(f, c, d)
			if want, wanted := m.back(c, d); p != want || led != wanted {
				t.Fatalf("Back %d %d: %d, %t instead of %d, %t: %s", c, d, p, led, want, wanted, describe(f))
			}
			expectInverse(t, f, c, d)
		}
		for b := -1; b <= len(m.spots); b++ {
			if got := Near(f, c, b); got != m.near(c, b) {
				t.Fatalf("Near %d %d: %t: %s", c, b, got, describe(f))
			}
		}
	}
}

// expectInverse checks that Back answers what Next says, and Next what Back says.
func expectInverse(t *testing.T, f api.Floor, c, d int) {
	t.Helper()
	if n, ok := Next(f, c, d); ok {
		if p, led := Back(f, n, d); !led || p != c {
			t.Fatalf("Next %d %d leads to %d, but Back of it to %d, %t: %s", c, d, n, p, led, describe(f))
		}
	}
	if p, ok := Back(f, c, d); ok {
		if n, led := Next(f, p, d); !led || n != c {
			t.Fatalf("Back %d %d leads to %d, but Next of it to %d, %t: %s", c, d, p, n, led, describe(f))
		}
	}
}

// expectDist compares distances with those of a model, and checks what the theorem says of them (P7.8).
func expectDist(t *testing.T, f api.Floor, from, avoid []int) {
	t.Helper()
	m := newModel(f)
	dist := Dist(f, from, avoid)
	if want := m.dist(from, avoid); !slices.Equal(dist, want) {
		t.Fatalf("Dist from %v without %v: %v instead of %v: %s", from, avoid, dist, want, describe(f))
	}
	for c := range m.spots {
		begins := slices.Contains(from, c) && m.usable(c, avoid)
		if (dist[c] == 0) != begins || dist[c] < -1 {
			t.Fatalf("Dist from %v without %v: %d of %d: %s", from, avoid, dist[c], c, describe(f))
		}
		nearer := dist[c] <= 0
		for d := range 6 {
			if n, ok := Next(f, c, d); ok && dist[c] >= 0 && dist[n] >= 0 && dist[n] > dist[c]+1 {
				t.Fatalf("Dist from %v without %v: too far from %d to %d: %s", from, avoid, c, n, describe(f))
			}
			if p, ok := Back(f, c, d); ok && dist[p] >= 0 && dist[p] == dist[c]-1 {
				nearer = true
			}
		}
		if !nearer {
			t.Fatalf("Dist from %v without %v: %d of %d is 1 more than no other one: %s", from, avoid, dist[c], c, describe(f))
		}
	}
}

// expectPath checks that a path is a way, that it has as many moves as Dist says (P7.8), and that no less directions lead to its end as fast.
func expectPath(t *testing.T, f api.Floor, a, b int, avoid []int) {
	t.Helper()
	m := newModel(f)
	path := Path(f, a, b, avoid)
	length := -1
	if m.usable(a, nil) && m.usable(b, nil) {
		length = Dist(f, []int{a}, avoid)[b]
	}
	if len(path) != length+1 {
		t.Fatalf("Path from %d to %d without %v: %v has not %d moves: %s", a, b, avoid, path, length, describe(f))
	}
	if len(path) == 0 {
		return
	}
	if path[0] != a || path[length] != b || !m.usable(a, avoid) {
		t.Fatalf("Path from %d to %d without %v: %v: %s", a, b, avoid, path, describe(f))
	}
	for i := range length {
		if want, ok := m.least(path[i], b, length-i, avoid); !ok || path[i+1] != want {
			t.Fatalf("Path from %d to %d without %v: %v instead of %d at %d: %s", a, b, avoid, path, want, i+1, describe(f))
		}
	}
}

// least returns the cell to which the least direction leads from c, from which a way of length - 1 moves leads to b.
func (m *model) least(c, b, length int, avoid []int) (int, bool) {
	for d := range 6 {
		if n, ok := m.next(c, d); ok && m.usable(n, avoid) && m.dist([]int{n}, avoid)[b] == length-1 {
			return n, true
		}
	}
	return 0, false
}

// expectPaths compares the paths from each cell to each other one, and to numbers of no cell, with those of a model.
func expectPaths(t *testing.T, f api.Floor, avoid []int) {
	t.Helper()
	m := newModel(f)
	for a := -1; a <= len(m.spots); a++ {
		for b := -1; b <= len(m.spots); b++ {
			if got, want := Path(f, a, b, avoid), m.path(a, b, avoid); !slices.Equal(got, want) {
				t.Fatalf("Path from %d to %d without %v: %v instead of %v: %s", a, b, avoid, got, want, describe(f))
			}
		}
	}
}

// subset returns the numbers whose bits are set.
func subset(bits int) []int {
	var l []int
	for i := range 8 {
		if bits>>i%2 == 1 {
			l = append(l, i)
		}
	}
	return l
}

// small are the sizes of floors of up to 4 cells.
var small = [][3]int{{1, 1, 1}, {2, 1, 1}, {1, 2, 1}, {1, 1, 2}, {3, 1, 1}, {1, 3, 1}, {1, 1, 3}, {2, 2, 1}, {2, 1, 2}, {1, 2, 2}, {4, 1, 1}, {1, 4, 1}, {1, 1, 4}}

// arrangements calls check with a floor of each arrangement of walls, free cells and lifts.
func arrangements(size [3]int, out func() int, check func(f api.Floor)) {
	kinds := []int{api.CWall, api.CFree, api.CLift}
	f := filled(size[0], size[1], size[2], api.CWall, 0)
	count := 1
	for range f.Kind {
		count *= len(kinds)
	}
	for i := range count {
		for c := range f.Kind {
			f.Kind[c], f.Out[c] = kinds[i%len(kinds)], out()
			i /= len(kinds)
		}
		check(f)
	}
}

// P7.2 to P7.5, P7.7 and P7.8: on floors of up to 4 cells, with each arrangement of walls, free cells and lifts, and each set of cells in from and avoid.

func TestSmallFloors(t *testing.T) {
	rnd := rand.New(rand.NewSource(1))
	outs := []func() int{
		func() int { return 63 },
		func() int { return rnd.Intn(64) },
		func() int { return rnd.Intn(64) | rnd.Intn(64) },
	}
	for _, size := range small {
		for _, out := range outs {
			arrangements(size, out, func(f api.Floor) {
				expectAll(t, f)
				sets := 1 << len(f.Kind)
				for avoid := range sets {
					expectPaths(t, f, subset(avoid))
					from := rnd.Intn(sets)
					expectDist(t, f, subset(from), subset(avoid))
					expectDist(t, f, subset(sets-1-from), subset(avoid))
				}
			})
		}
	}
}

// TestEachOutOfTwoCells has floors of two cells, with each Out that says how they can be left.
func TestEachOutOfTwoCells(t *testing.T) {
	for _, size := range [][3]int{{2, 1, 1}, {1, 2, 1}, {1, 1, 2}} {
		for _, kind := range []int{api.CFree, api.CLift} {
			for out := range 64 * 64 {
				f := filled(size[0], size[1], size[2], kind, out%64)
				f.Out[1] = out / 64
				expectAll(t, f)
				expectPaths(t, f, nil)
			}
		}
	}
}

// TestCubes compares all paths of floors of 8 cells with the least of all lists of directions.
func TestCubes(t *testing.T) {
	rnd := rand.New(rand.NewSource(2))
	for i := range 60 {
		f := filled(2, 2, 2, api.CLift, 63)
		if i%3 == 1 {
			f = filled(4, 2, 1, api.CFree, 63)
		}
		for range rnd.Intn(6) {
			f.Out[rnd.Intn(8)] = rnd.Intn(64)
		}
		expectAll(t, f)
		expectPaths(t, f, nil)
		expectPaths(t, f, []int{rnd.Intn(8)})
	}
}

// draw returns a floor, two lists of cells, and two cells, which follow from the numbers that next chooses.
func draw(next func(n int) int) (f api.Floor, from, avoid []int, a, b int) {
	f = filled(1+next(7), 1+next(7), 1+next(4), api.CWall, 0)
	n := len(f.Kind)
	walls := 1 + next(6)
	lifts := next(4)
	bits := next(4)
	for c := range n {
		f.Kind[c] = 1 + next(api.CKinds-1)
		if next(4) < lifts {
			f.Kind[c] = api.CLift
		}
		if next(walls+2) == 0 {
			f.Kind[c] = api.CWall
		}
		f.Out[c] = 63
		if next(4) < bits {
			f.Out[c] = next(64)
		}
	}
	list := func(count int) []int {
		l := make([]int, next(count+1))
		for i := range l {
			l[i] = next(n+4) - 2
		}
		return l
	}
	return f, list(4), list(1 + n/4), next(n), next(n)
}

// P7.2 to P7.5, P7.7 and P7.8: on floors that are made at random.

func TestAgainstTheModel(t *testing.T) {
	rnd := rand.New(rand.NewSource(3))
	for range 1500 {
		f, from, avoid, a, b := draw(rnd.Intn)
		if len(f.Kind) < 60 {
			expectAll(t, f)
		}
		expectDist(t, f, from, avoid)
		for range 4 {
			expectPath(t, f, a, b, avoid)
			a, b = b, rnd.Intn(len(f.Kind))
		}
	}
}

// P7.7 on the greatest floors.

func TestInverseOnTheGreatestFloors(t *testing.T) {
	rnd := rand.New(rand.NewSource(4))
	for _, s := range sizes {
		f := filled(s[0], s[1], s[2], api.CLift, 63)
		for c := range f.Out {
			if rnd.Intn(3) == 0 {
				f.Kind[c], f.Out[c] = rnd.Intn(api.CKinds), rnd.Intn(64)
			}
		}
		for c := -1; c <= len(f.Kind); c++ {
			for d := -1; d <= 6; d++ {
				expectInverse(t, f, c, d)
			}
		}
	}
}

func FuzzFloor(f *testing.F) {
	rnd := rand.New(rand.NewSource(5))
	for range 20 {
		bytes := make([]byte, 300)
		rnd.Read(bytes)
		f.Add(bytes)
	}
	f.Fuzz(func(t *testing.T, bytes []byte) {
		floor, from, avoid, a, b := draw(func(n int) int {
			if len(bytes) == 0 {
				return 0
			}
			first := int(bytes[0])
			bytes = bytes[1:]
			return first % n
		})
		if len(floor.Kind) < 30 {
			expectAll(t, floor)
		}
		expectDist(t, floor, from, avoid)
		expectPath(t, floor, a, b, avoid)
	})
}
