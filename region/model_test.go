package region

import (
	"math/rand"
	"slices"
	"testing"

	"taquin/api"
)

// The definitions of the chapters 7 and 8, without regard to how long it takes.

// usableCell reports whether c is a cell of the floor, and no wall.
func usableCell(f api.Floor, c int) bool {
	return c < len(f.Kind) && f.Kind[c] != api.CWall
}

// gets reports whether one gets from a to b in some direction.
func gets(f api.Floor, a, b int) bool {
	if !usableCell(f, a) || !usableCell(f, b) {
		return false
	}
	place := func(c int) [3]int { return [3]int{c % f.W, c / f.W % f.H, c / f.W / f.H} }
	p, q := place(a), place(b)
	lifts := f.Kind[a] == api.CLift && f.Kind[b] == api.CLift
	switch [3]int{q[0] - p[0], q[1] - p[1], q[2] - p[2]} {
	case [3]int{1, 0, 0}:
		return f.Out[a]&east != 0
	case [3]int{0, 1, 0}:
		return f.Out[a]&south != 0
	case [3]int{-1, 0, 0}:
		return f.Out[a]&west != 0
	case [3]int{0, -1, 0}:
		return f.Out[a]&north != 0
	case [3]int{0, 0, 1}:
		return f.Out[a]&up != 0 && lifts
	case [3]int{0, 0, -1}:
		return f.Out[a]&down != 0 && lifts
	}
	return false
}

// lengths returns, for each cell of r, the least lengths of ways within r to each of them; -1 where there is none.
func lengths(f api.Floor, r []int) [][]int {
	const far = 1 << 20
	l := make([][]int, len(r))
	for i, a := range r {
		l[i] = slices.Repeat([]int{far}, len(r))
		for j, b := range r {
			if gets(f, a, b) {
				l[i][j] = 1
			}
		}
		if usableCell(f, a) {
			l[i][i] = 0
		}
	}
	for k := range r {
		for i := range r {
			for j := range r {
				l[i][j] = min(l[i][j], l[i][k]+l[k][j])
			}
		}
	}
	for i := range r {
		for j := range r {
			if l[i][j] >= far {
				l[i][j] = -1
			}
		}
	}
	return l
}

// areLinked reports whether ways lead from each cell to each other one, by the lengths of ways.
func areLinked(lengths [][]int) bool {
	for _, row := range lengths {
		if slices.Contains(row, -1) {
			return false
		}
	}
	return true
}

// groups returns the cells between which ways lead there and back.
func groups(r []int, lengths [][]int) [][]int {
	var l [][]int
	for i := range r {
		var group []int
		for j, c := range r {
			if lengths[i][j] >= 0 && lengths[j][i] >= 0 {
				group = append(group, c)
			}
		}
		if len(group) > 0 && group[0] == r[i] {
			l = append(l, group)
		}
	}
	return l
}

// largest returns the linked regions within r that have a cell, and are not within another one, in the order of their least cells.
func largest(f api.Floor, r []int) [][]int {
	var linked [][]int
	for _, sub := range choices(r) {
		if len(sub) > 0 && areLinked(lengths(f, sub)) {
			linked = append(linked, sub)
		}
	}
	within := func(a, b []int) bool {
		return !slices.ContainsFunc(a, func(c int) bool { return !slices.Contains(b, c) })
	}
	l := slices.DeleteFunc(slices.Clone(linked), func(a []int) bool {
		return slices.ContainsFunc(linked, func(b []int) bool { return len(b) > len(a) && within(a, b) })
	})
	slices.SortFunc(l, func(a, b []int) int { return a[0] - b[0] })
	return l
}

// edge returns the cells of r from which one gets out of it.
func edge(f api.Floor, r []int) []int {
	var l []int
	for _, a := range r {
		for b := range f.Kind {
			if !slices.Contains(r, b) && gets(f, a, b) {
				l = append(l, a)
				break
			}
		}
	}
	return l
}

// inside returns the least lengths of ways within r from some cells.
func inside(r, from []int, lengths [][]int) []int {
	l := make([]int, len(r))
	for j := range r {
		l[j] = -1
		for i, a := range r {
			if slices.Contains(from, a) && lengths[i][j] >= 0 && (l[j] < 0 || lengths[i][j] < l[j]) {
				l[j] = lengths[i][j]
			}
		}
	}
	return l
}

// expectAll compares what the functions say of a region with the definitions, and checks the theorem.
func expectAll(t *testing.T, f api.Floor, r, from []int) {
	t.Helper()
	l := lengths(f, r)
	parts, want := Parts(f, r), groups(r, l)
	if !sameParts(parts, want) {
		t.Fatalf("Parts of %v: %v instead of %v: %s", r, parts, want, describe(f))
	}
	if got := Linked(f, r); got != areLinked(l) {
		t.Fatalf("Linked of %v: %t: %s", r, got, describe(f))
	}
	if got, want := Edge(f, r), edge(f, r); !slices.Equal(got, want) {
		t.Fatalf("Edge of %v: %v instead of %v: %s", r, got, want, describe(f))
	}
	if got, want := Inside(f, r, from), inside(r, from, l); !slices.Equal(got, want) {
		t.Fatalf("Inside of %v from %v: %v instead of %v: %s", r, from, got, want, describe(f))
	}
	expectTheorem(t, f, r, parts)
}

// expectTheorem checks P8.6 for a region and its parts, with no other functions than those of the package.
func expectTheorem(t *testing.T, f api.Floor, r []int, parts [][]int) {
	t.Helper()
	var all []int
	for i, p := range parts {
		if !Right(p) || len(p) == 0 || !Linked(f, p) || len(Inter(p, all)) > 0 {
			t.Fatalf("parts %v of %v: %s", parts, r, describe(f))
		}
		all = Union(all, p)
		for _, q := range parts[:i] {
			if q[0] >= p[0] || Linked(f, Union(q, p)) {
				t.Fatalf("parts %v and %v of %v: %s", q, p, r, describe(f))
			}
		}
	}
	free := slices.DeleteFunc(slices.Clone(r), func(c int) bool { return !usableCell(f, c) })
	if !Same(all, free) {
		t.Fatalf("all parts %v of %v: %s", parts, r, describe(f))
	}
	linked := true
	for i, c := range r {
		linked = linked && Inside(f, r, r[:1])[i] >= 0 && Inside(f, r, []int{c})[0] >= 0
	}
	if Linked(f, r) != linked {
		t.Fatalf("Linked of %v: %s", r, describe(f))
	}
}

// P8.2, P8.3 and P8.6: on floors of up to 4 cells, with each arrangement of walls, free cells and lifts, and each region.

func TestSmallFloors(t *testing.T) {
	rnd := rand.New(rand.NewSource(3))
	for _, size := range [][3]int{{1, 1, 1}, {2, 1, 1}, {1, 2, 1}, {1, 1, 2}, {3, 1, 1}, {1, 3, 1}, {1, 1, 3}, {2, 2, 1}, {2, 1, 2}, {1, 2, 2}, {4, 1, 1}, {1, 4, 1}, {1, 1, 4}} {
		f := filled(size[0], size[1], size[2], api.CWall, 0)
		n := len(f.Kind)
		regions := choices(append(upTo(0, n-1), 4095))
		lists([]int{api.CWall, api.CFree, api.CLift}, n, func(kinds []int) {
			if len(kinds) < n {
				return
			}
			f.Kind = kinds
			for c := range f.Out {
				f.Out[c] = rnd.Intn(64) | rnd.Intn(64)
			}
			for _, r := range regions {
				expectAll(t, f, r, regions[rnd.Intn(len(regions))])
				if want := largest(f, r); !sameParts(Parts(f, r), want) {
					t.Fatalf("Parts of %v: %v instead of %v: %s", r, Parts(f, r), want, describe(f))
				}
			}
		})
	}
}

// TestAllSteps has all floors of a row or a square of 4 free cells that differ in the steps between their cells, and all from a row of 3 lifts above each other.
func TestAllSteps(t *testing.T) {
	for _, c := range []struct {
		f    api.Floor
		outs []int
	}{
		{filled(4, 1, 1, api.CFree, 0), []int{0, east, west, east | west}},
		{filled(2, 2, 1, api.CFree, 0), []int{0, east | west, south | north, east | south | west | north}},
		{filled(1, 1, 3, api.CLift, 0), []int{0, up, down, up | down}},
	} {
		n := len(c.f.Kind)
		regions := choices(upTo(0, n-1))
		lists(c.outs, n, func(out []int) {
			if len(out) < n {
				return
			}
			f := leaving(c.f, out...)
			for i, r := range regions {
				expectAll(t, f, r, regions[len(regions)-1-i])
				expectAll(t, f, r, r[:min(1, len(r))])
			}
		})
	}
}

// draw returns a floor, a region, and a list of cells, which follow from the numbers that next chooses.
func draw(next func(n int) int) (f api.Floor, r, from []int) {
	f = filled(1+next(5), 1+next(5), 1+next(3), api.CWall, 0)
	n := len(f.Kind)
	walls, lifts, bits, most := 1+next(6), next(4), next(4), 1+next(6)
	for c := range n {
		f.Kind[c] = 1 + next(api.CKinds-1)
		if next(4) < lifts {
			f.Kind[c] = api.CLift
		}
		if next(walls+2) == 0 {
			f.Kind[c] = api.CWall
		}
		f.Out[c] = 63
		if next(4) < bits {
			f.Out[c] = next(64)
		}
		if next(most+1) > 0 {
			r = append(r, c)
		}
	}
	for range next(3) {
		r = append(r, n+next(2)+2*len(r))
	}
	for range next(4) {
		from = append(from, next(n+4)-2)
	}
	return f, r, from
}

// P8.2, P8.3 and P8.6: on floors that are made at random.

func TestAgainstTheDefinitions(t *testing.T) {
	rnd := rand.New(rand.NewSource(4))
	for range 1500 {
		f, r, from := draw(rnd.Intn)
		if !Right(r) {
			t.Fatal("no region", r)
		}
		expectAll(t, f, r, from)
	}
}

// TestTheoremOnTheGreatestFloors checks what the theorem says of parts, with steps that lead there and back now and then.
func TestTheoremOnTheGreatestFloors(t *testing.T) {
	rnd := rand.New(rand.NewSource(5))
	for _, s := range [][3]int{{64, 64, 1}, {32, 32, 4}, {4096, 1, 1}, {1, 1024, 4}} {
		f := filled(s[0], s[1], s[2], api.CLift, 63)
		for c := range f.Out {
			f.Out[c] = rnd.Intn(64) | rnd.Intn(64)
			if rnd.Intn(8) == 0 {
				f.Kind[c] = rnd.Intn(api.CKinds)
			}
		}
		for _, r := range [][]int{upTo(0, 4095), randomRegion(rnd, 2), randomRegion(rnd, 9)} {
			expectDivided(t, f, r)
		}
	}
}

// expectDivided checks that the parts of a region are linked, and have its cells but walls, each once.
func expectDivided(t *testing.T, f api.Floor, r []int) {
	t.Helper()
	parts := Parts(f, r)
	for i, p := range parts {
		if !Right(p) || i > 0 && parts[i-1][0] >= p[0] {
			t.Fatal("no region, or out of order:", brief(p), describe(f))
		}
		if i < 20 && !Linked(f, p) || i > 0 && i < 20 && Linked(f, Union(parts[i-1], p)) {
			t.Fatal("linked:", brief(parts[i-1]), brief(p), describe(f))
		}
	}
	cells := slices.Concat(parts...)
	free := slices.DeleteFunc(slices.Clone(r), func(c int) bool { return !usableCell(f, c) })
	if len(cells) != len(free) || !Same(Of(cells), free) {
		t.Fatal("not divided", brief(r), describe(f))
	}
}

func FuzzRegion(f *testing.F) {
	rnd := rand.New(rand.NewSource(6))
	for range 20 {
		bytes := make([]byte, 200)
		rnd.Read(bytes)
		f.Add(bytes)
	}
	f.Fuzz(func(t *testing.T, bytes []byte) {
		floor, r, from := draw(func(n int) int {
			if len(bytes) == 0 {
				return 0
			}
			first := int(bytes[0])
			bytes = bytes[1:]
			return first % n
		})
		expectAll(t, floor, r, from)
	})
}
