package floor

import (
	"testing"

	"taquin/api"
)

// none says that there is no cell.
const none = -1

// expectStep checks what Next or Back returns: a cell, or none.
func expectStep(t *testing.T, about string, f api.Floor, step func(f api.Floor, c, d int) (int, bool), c, d, want int) {
	t.Helper()
	got, ok := step(f, c, d)
	if want == none && (ok || got != 0) || want != none && (!ok || got != want) {
		t.Errorf("%s %d %d: %d, %t instead of %d: %s", about, c, d, got, ok, want, describe(f))
	}
}

// expectBoth checks a step from a to b: that Next leads from a to b, and Back from b to a; or none of them.
func expectBoth(t *testing.T, f api.Floor, a, d, b int, want bool) {
	t.Helper()
	if want {
		expectStep(t, "Next", f, Next, a, d, b)
		expectStep(t, "Back", f, Back, b, d, a)
	} else {
		expectStep(t, "Next", f, Next, a, d, none)
		expectStep(t, "Back", f, Back, b, d, none)
	}
}

// cube are the neighbours of the cells of a floor of W, H and D 2.
var cube = [8][6]int{
	{1, 2, none, none, 4, none},
	{none, 3, 0, none, 5, none},
	{3, none, none, 0, 6, none},
	{none, none, 2, 1, 7, none},
	{5, 6, none, none, none, 0},
	{none, 7, 4, none, none, 1},
	{7, none, none, 4, none, 2},
	{none, none, 6, 5, none, 3},
}

// P7.2: Next and Back.

func TestStepsOfACube(t *testing.T) {
	f := filled(2, 2, 2, api.CLift, 63)
	for c, neighbours := range cube {
		for d, n := range neighbours {
			expectStep(t, "Next", f, Next, c, d, n)
			expectStep(t, "Back", f, Back, c, []int{api.West, api.North, api.East, api.South, api.Down, api.Up}[d], n)
		}
	}
}

func TestStepsAtTheSides(t *testing.T) {
	for _, c := range []struct {
		w, h, d, cell int
		want          [6]int
	}{
		{1, 1, 1, 0, [6]int{none, none, none, none, none, none}},
		{3, 1, 1, 0, [6]int{1, none, none, none, none, none}},
		{3, 1, 1, 1, [6]int{2, none, 0, none, none, none}},
		{3, 1, 1, 2, [6]int{none, none, 1, none, none, none}},
		{1, 3, 1, 0, [6]int{none, 1, none, none, none, none}},
		{1, 3, 1, 1, [6]int{none, 2, none, 0, none, none}},
		{1, 3, 1, 2, [6]int{none, none, none, 1, none, none}},
		{1, 1, 3, 0, [6]int{none, none, none, none, 1, none}},
		{1, 1, 3, 1, [6]int{none, none, none, none, 2, 0}},
		{1, 1, 3, 2, [6]int{none, none, none, none, none, 1}},
		{3, 4, 3, 0, [6]int{1, 3, none, none, 12, none}},
		{3, 4, 3, 2, [6]int{none, 5, 1, none, 14, none}},
		{3, 4, 3, 5, [6]int{none, 8, 4, 2, 17, none}},
		{3, 4, 3, 9, [6]int{10, none, none, 6, 21, none}},
		{3, 4, 3, 11, [6]int{none, none, 10, 8, 23, none}},
		{3, 4, 3, 12, [6]int{13, 15, none, none, 24, 0}},
		{3, 4, 3, 16, [6]int{17, 19, 15, 13, 28, 4}},
		{3, 4, 3, 23, [6]int{none, none, 22, 20, 35, 11}},
		{3, 4, 3, 24, [6]int{25, 27, none, none, none, 12}},
		{3, 4, 3, 35, [6]int{none, none, 34, 32, none, 23}},
		{4096, 1, 1, 4095, [6]int{none, none, 4094, none, none, none}},
		{1, 4096, 1, 4095, [6]int{none, none, none, 4094, none, none}},
		{32, 32, 4, 4095, [6]int{none, none, 4094, 4063, none, 3071}},
		{32, 32, 4, 0, [6]int{1, 32, none, none, 1024, none}},
	} {
		f := filled(c.w, c.h, c.d, api.CLift, 63)
		for d, n := range c.want {
			expectStep(t, "Next", f, Next, c.cell, d, n)
			expectStep(t, "Back", f, Back, c.cell, Opposite(d), n)
		}
	}
}

func TestStepsOfNoDirectionOrCell(t *testing.T) {
	for _, f := range []api.Floor{filled(2, 2, 2, api.CLift, 63), filled(3, 3, 1, api.CFree, 63), filled(1, 1, 1, api.CPort, 63), filled(1, 4096, 1, api.CFree, 63)} {
		for _, d := range noDirections() {
			for c := range min(len(f.Kind), 9) {
				expectStep(t, "Next", f, Next, c, d, none)
				expectStep(t, "Back", f, Back, c, d, none)
			}
		}
		for _, c := range outside(len(f.Kind)) {
			for d := -1; d <= 6; d++ {
				expectStep(t, "Next", f, Next, c, d, none)
				expectStep(t, "Back", f, Back, c, d, none)
			}
			for _, d := range noDirections() {
				expectStep(t, "Next", f, Next, c, d, none)
				expectStep(t, "Back", f, Back, c, d, none)
			}
		}
	}
}

// pairs calls check with two cells beside each other in each direction: the neighbour of a in the direction d is b.
func pairs(check func(f api.Floor, a, d, b int)) {
	for a, neighbours := range cube {
		for d, b := range neighbours {
			if b != none {
				check(filled(2, 2, 2, api.CFree, 0), a, d, b)
			}
		}
	}
}

func TestStepsBetweenKinds(t *testing.T) {
	pairs(func(f api.Floor, a, d, b int) {
		f.Out[a] = 63
		for from := range api.CKinds {
			for to := range api.CKinds {
				f.Kind[a], f.Kind[b] = from, to
				want := from != api.CWall && to != api.CWall
				if d == api.Up || d == api.Down {
					want = from == api.CLift && to == api.CLift
				}
				expectBoth(t, f, a, d, b, want)
			}
		}
	})
}

// TestStepsBesideWalls checks that the kinds of cells that are neither the first nor the last one of a step do not matter.
func TestStepsBesideWalls(t *testing.T) {
	pairs(func(f api.Floor, a, d, b int) {
		f = filled(2, 2, 2, api.CWall, 0)
		f.Kind[a], f.Kind[b], f.Out[a] = api.CLift, api.CLift, 63
		for e := range 6 {
			expectBoth(t, f, a, e, b, e == d)
		}
	})
}

func TestEachOut(t *testing.T) {
	pairs(func(f api.Floor, a, d, b int) {
		for out := range 64 {
			for _, other := range []int{0, 63} { // how b may be left does not matter
				f.Kind[a], f.Kind[b], f.Out[a], f.Out[b] = api.CLift, api.CLift, out, other
				expectBoth(t, f, a, d, b, out>>d%2 == 1)
				expectBoth(t, f, b, Opposite(d), a, other == 63)
			}
		}
	})
}

func TestOutDoesNotHelpAgainstSidesAndWalls(t *testing.T) {
	f := sketch("#.# .L. #.#", "... ... ...")
	for d := range 6 {
		expectStep(t, "Next", f, Next, 0, d, none) // a wall with all bits
		expectStep(t, "Back", f, Back, 0, d, none)
	}
	expectStep(t, "Next", f, Next, 1, api.North, none)
	expectStep(t, "Next", f, Next, 1, api.East, none)
	expectStep(t, "Next", f, Next, 1, api.West, none)
	expectStep(t, "Next", f, Next, 1, api.South, 4)
	expectStep(t, "Next", f, Next, 4, api.Up, none) // no lift above
	expectStep(t, "Next", f, Next, 13, api.Down, none)
	expectStep(t, "Next", f, Next, 4, api.Down, none)
	f.Kind[13] = api.CLift
	expectBoth(t, f, 4, api.Up, 13, true)
	expectBoth(t, f, 13, api.Down, 4, true)
	f.Out[4] = 63 - 1<<api.Up
	expectBoth(t, f, 4, api.Up, 13, false)
	expectBoth(t, f, 13, api.Down, 4, true)
}

func TestLiftsBesideEachOther(t *testing.T) {
	f := sketch("L.L .L.", "LL. ..L", "L.. .LL")
	for _, c := range []struct {
		a, d, b int
		want    bool
	}{
		{0, api.Up, 6, true}, {6, api.Up, 12, true}, {12, api.Down, 6, true}, {6, api.Down, 0, true},
		{1, api.Up, 7, false}, {7, api.Down, 1, false}, {2, api.Up, 8, false}, {4, api.Up, 10, false}, {11, api.Up, 17, true}, {17, api.Down, 11, true}, {5, api.Up, 11, false},
		{0, api.East, 1, true}, {1, api.East, 2, true}, {6, api.East, 7, true}, {16, api.East, 17, true}, {7, api.South, 10, true}, {7, api.West, 6, true},
	} {
		expectBoth(t, f, c.a, c.d, c.b, c.want)
	}
}

// P7.3: Near and Opposite.

func TestNear(t *testing.T) {
	for _, s := range sizes {
		f := filled(s[0], s[1], s[2], api.CFree, 63)
		n := len(f.Kind)
		var l []int
		for c := range n {
			if n < 100 || c < 3 || c >= n-3 || c%97 == 0 {
				l = append(l, c)
			}
		}
		for _, a := range l {
			for b := range n {
				expectNear(t, f, a, b, beside(f, a, b))
			}
		}
	}
}

// beside reports what Near has to report, by the places of the cells.
func beside(f api.Floor, a, b int) bool {
	deck := f.W * f.H
	if a/deck != b/deck {
		return false
	}
	x, y := a%deck%f.W-b%deck%f.W, a%deck/f.W-b%deck/f.W
	return x*x+y*y == 1
}

func expectNear(t *testing.T, f api.Floor, a, b int, want bool) {
	t.Helper()
	if Near(f, a, b) != want || Near(f, b, a) != want {
		t.Errorf("Near %d %d is not %t: %s", a, b, want, describe(f))
	}
}

func TestNearAtTheEdges(t *testing.T) {
	f := filled(3, 2, 2, api.CLift, 63)
	for _, c := range []struct {
		a, b int
		want bool
	}{
		{0, 0, false}, {4, 4, false}, {0, 1, true}, {1, 2, true}, {0, 2, false},
		{2, 3, false}, // the ends of two rows
		{5, 6, false}, // the ends of two decks
		{0, 3, true}, {2, 5, true}, {0, 4, false}, {1, 3, false}, {3, 6, false}, {5, 8, false},
		{0, 6, false}, {4, 10, false}, // above each other
		{3, 5, false}, {6, 9, true}, {10, 11, true},
	} {
		expectNear(t, f, c.a, c.b, c.want)
	}
}

func TestNearRegardsNoKindsAndNoOut(t *testing.T) {
	for a := range api.CKinds {
		for b := range api.CKinds {
			for _, out := range []int{0, 1, 4, 63} {
				f := filled(2, 1, 1, a, out)
				f.Kind[1] = b
				expectNear(t, f, 0, 1, true)
				expectNear(t, f, 0, 0, false)
				f.W, f.H = 1, 2
				expectNear(t, f, 0, 1, true)
				f.H, f.D = 1, 2
				expectNear(t, f, 0, 1, false)
			}
		}
	}
}

func TestNearOfNoCells(t *testing.T) {
	for _, f := range []api.Floor{filled(1, 1, 1, api.CFree, 63), filled(3, 3, 1, api.CFree, 63), filled(2, 2, 2, api.CLift, 63), filled(64, 64, 1, api.CFree, 63)} {
		n := len(f.Kind)
		for _, a := range outside(n) {
			for _, b := range append(outside(n), 0, 1, n-1, n/2) {
				expectNear(t, f, a, b, false)
			}
			expectNear(t, f, a, a+1, false)
			expectNear(t, f, a, a+f.W, false)
		}
	}
}

func TestOpposite(t *testing.T) {
	for _, p := range [][2]int{{api.East, api.West}, {api.South, api.North}, {api.Up, api.Down}} {
		if Opposite(p[0]) != p[1] || Opposite(p[1]) != p[0] {
			t.Error(p, Opposite(p[0]), Opposite(p[1]))
		}
	}
	for _, d := range noDirections() {
		if got := Opposite(d); got != -1 {
			t.Error(d, got)
		}
	}
}
