package floor

import (
	"math"
	"slices"
	"strconv"
	"strings"
	"testing"

	"taquin/api"
)

// filled returns a floor whose cells are of one kind, with the same Out.
func filled(w, h, d, kind, out int) api.Floor {
	n := w * h * d
	return api.Floor{W: w, H: h, D: d, Kind: slices.Repeat([]int{kind}, n), Out: slices.Repeat([]int{out}, n)}
}

// sketch returns a floor of decks that are drawn: the rows of each one, separated by spaces. All bits of Out are set.
func sketch(decks ...string) api.Floor {
	f := api.Floor{D: len(decks)}
	for _, deck := range decks {
		rows := strings.Fields(deck)
		f.W, f.H = len(rows[0]), len(rows)
		for _, row := range rows {
			for i := range len(row) {
				f.Kind = append(f.Kind, strings.IndexByte("#.PCWEL", row[i]))
				f.Out = append(f.Out, 63)
			}
		}
	}
	return f
}

// example returns the floor of the chapter's examples.
func example() api.Floor {
	return sketch(".#. ...")
}

// cloned returns a floor with lists of its own.
func cloned(f api.Floor) api.Floor {
	f.Kind, f.Out = slices.Clone(f.Kind), slices.Clone(f.Out)
	return f
}

// describe writes a floor, for messages.
func describe(f api.Floor) string {
	s := strconv.Itoa(f.W) + "x" + strconv.Itoa(f.H) + "x" + strconv.Itoa(f.D)
	for c := range min(len(f.Kind), len(f.Out), 40) {
		s += " " + strconv.Itoa(f.Kind[c]) + "/" + strconv.Itoa(f.Out[c])
	}
	return s
}

// outside returns numbers that are less than 0, or at least n. Some of them would not be, if only some of their bits were looked at, or if they were doubled.
func outside(n int) []int {
	l := []int{-1, n, -2, n + 1, -n, 2 * n, 4096, -4096, 1 << 31, 1 << 32, 1<<32 + n - 1, -1 << 32, 1 << 60, 1 << 62, 1<<62 + 1, math.MaxInt, math.MaxInt - 1, math.MinInt, math.MinInt + 1}
	return slices.DeleteFunc(l, func(i int) bool { return 0 <= i && i < n })
}

// noDirections returns numbers of no direction.
func noDirections() []int {
	return append(outside(6), 7, 8, -3, -4, -5, 16, 31, 32, 33, 63, 64, 65, -63, -64)
}

func expectRight(t *testing.T, about string, f api.Floor, want bool) {
	t.Helper()
	if got := Right(f); got != want {
		t.Errorf("%s: %t instead of %t: %s", about, got, want, describe(f))
	}
}

func expectList(t *testing.T, about string, got []int, want ...int) {
	t.Helper()
	if !slices.Equal(got, want) {
		t.Errorf("%s: %v instead of %v", about, got, want)
	}
}

func expectCell(t *testing.T, f api.Floor, x, y, z, want int) {
	t.Helper()
	if got := Cell(f, x, y, z); got != want {
		t.Errorf("Cell %d %d %d: %d instead of %d: %s", x, y, z, got, want, describe(f))
	}
}

// The rows of the chapter's examples.

func TestExamples(t *testing.T) {
	f := example()
	expectRight(t, "example", f, true)
	expectStep(t, "Next", f, Next, 3, api.East, 4)
	expectStep(t, "Next", f, Next, 0, api.East, none)
	expectList(t, "Path", Path(f, 0, 2, nil), 0, 3, 4, 5, 2)
	expectList(t, "Dist", Dist(f, []int{2}, nil), 4, -1, 0, 3, 2, 1)
}

// P7.1: Right.

// sizes are those of right floors: the least and the greatest ones, and some between.
var sizes = [][3]int{
	{1, 1, 1}, {2, 1, 1}, {1, 2, 1}, {1, 1, 2}, {1, 1, 3}, {1, 1, 4}, {3, 2, 1}, {2, 3, 4}, {5, 1, 2}, {1, 5, 3}, {7, 5, 4},
	{4095, 1, 1}, {4096, 1, 1}, {1, 4096, 1}, {64, 64, 1}, {2, 2048, 1}, {2048, 1, 2}, {1, 2048, 2}, {1024, 1, 4}, {1, 1024, 4}, {32, 32, 4}, {1365, 1, 3}, {15, 91, 3}, {63, 65, 1},
}

func TestRightSizes(t *testing.T) {
	for _, s := range sizes {
		expectRight(t, "right size", filled(s[0], s[1], s[2], api.CFree, 63), true)
	}
}

func TestTooManyCells(t *testing.T) {
	for _, s := range [][3]int{
		{4097, 1, 1}, {1, 4097, 1}, {17, 241, 1}, {241, 17, 1}, {2049, 1, 2}, {1, 2049, 2}, {1025, 1, 4}, {1, 1025, 4}, {1366, 1, 3}, {64, 65, 1}, {65, 64, 1}, {64, 64, 2}, {32, 32, 5}, {33, 32, 4}, {32, 33, 4}, {4096, 2, 1}, {2, 4096, 1}, {4096, 1, 2}, {1, 4096, 4},
	} {
		expectRight(t, "too many", filled(s[0], s[1], s[2], api.CFree, 63), false)
		expectRight(t, "too many, short lists", sized(s[0], s[1], s[2], api.MaxCells), false)
	}
	expectRight(t, "each at most the limit", sized(api.MaxCells, api.MaxCells, api.MaxDecks, api.MaxCells), false)
}

func TestTooManyDecks(t *testing.T) {
	for d, want := range []bool{false, true, true, true, true, false, false} {
		expectRight(t, "decks", filled(3, 2, d, api.CLift, 63), want)
		expectRight(t, "decks of one cell", filled(1, 1, d, api.CLift, 63), want)
	}
	expectRight(t, "decks", filled(1, 1, 4096, api.CLift, 63), false)
	expectRight(t, "decks", filled(819, 1, 5, api.CFree, 63), false)
}

// sized returns a floor with these numbers as its size, and lists of n elements.
func sized(w, h, d, n int) api.Floor {
	f := filled(n, 1, 1, api.CFree, 63)
	f.W, f.H, f.D = w, h, d
	return f
}

func TestSizesOfNothing(t *testing.T) {
	for _, bad := range []int{0, -1, -2, -4096, math.MinInt, math.MinInt + 1} {
		for _, n := range []int{0, 1, 2, 4} {
			expectRight(t, "W", sized(bad, 1, 1, n), false)
			expectRight(t, "H", sized(1, bad, 1, n), false)
			expectRight(t, "D", sized(1, 1, bad, n), false)
			expectRight(t, "W and H", sized(bad, bad, 1, n), false)
			expectRight(t, "W and D", sized(bad, 1, bad, n), false)
			expectRight(t, "H and D", sized(1, bad, bad, n), false)
			expectRight(t, "all", sized(bad, bad, bad, n), false)
		}
	}
	for _, s := range [][4]int{{-1, -1, 1, 1}, {-2, -2, 1, 4}, {-2, 1, -2, 4}, {1, -2, -2, 4}, {-1, -4, 1, 4}, {-1, 1, -1, 1}, {0, 0, 0, 0}} {
		expectRight(t, "a product that is not negative", sized(s[0], s[1], s[2], s[3]), false)
	}
	expectRight(t, "zero", api.Floor{}, false)
}

// TestProductsThatAreNoInt has sizes whose product, taken modulo 2^64, is the number of elements.
func TestProductsThatAreNoInt(t *testing.T) {
	third := 6148914691236517206 // a third of 2^64 + 2
	for _, s := range [][4]int{
		{1 << 32, 1 << 32, 1, 0}, {1 << 62, 4, 1, 0}, {4, 1 << 62, 1, 0}, {1 << 62, 1, 4, 0}, {1, 1 << 62, 4, 0}, {1 << 31, 1 << 31, 4, 0}, {1 << 60, 1 << 60, 4, 0},
		{3, third, 1, 2}, {third, 3, 1, 2}, {third, 1, 3, 2}, {1, third, 3, 2}, {1<<62 + 1, 1, 4, 4}, {1, 1<<62 + 1, 4, 4}, {1<<62 + 1, 4, 1, 4}, {1<<62 + 1, 1<<62 + 1, 1, 1}, {1<<63 - 1, 1<<63 - 1, 1, 1}, {1<<62 + 256, 2, 2, 1024}, {2, 2, 1<<62 + 256, 1024},
		{math.MaxInt, 1, 1, 0}, {1, math.MaxInt, 1, 0}, {1, 1, math.MaxInt, 0}, {math.MaxInt, math.MaxInt, math.MaxInt, 1}, {math.MinInt, 2, 1, 0}, {math.MinInt, math.MinInt, 1, 0},
	} {
		expectRight(t, "no int", sized(s[0], s[1], s[2], s[3]), false)
	}
	for _, huge := range []int{4097, 5000, 1 << 16, 1 << 31, 1 << 32, 1<<32 + 1, 1 << 62, math.MaxInt} {
		for _, n := range []int{1, 2, 4096} {
			expectRight(t, "huge W", sized(huge, 1, 1, n), false)
			expectRight(t, "huge H", sized(1, huge, 1, n), false)
			expectRight(t, "huge D", sized(1, 1, huge, n), false)
			expectRight(t, "all huge", sized(huge, huge, huge, n), false)
		}
	}
}

func TestListsOfOtherLengths(t *testing.T) {
	for _, s := range sizes {
		f := filled(s[0], s[1], s[2], api.CFree, 63)
		for _, kinds := range [][]int{nil, {}, f.Kind[1:], append(slices.Clone(f.Kind), api.CFree), slices.Concat(f.Kind, f.Kind)} {
			expectRight(t, "Kind", api.Floor{W: f.W, H: f.H, D: f.D, Kind: kinds, Out: f.Out}, false)
			expectRight(t, "Out", api.Floor{W: f.W, H: f.H, D: f.D, Kind: f.Kind, Out: kinds}, false)
			expectRight(t, "both", api.Floor{W: f.W, H: f.H, D: f.D, Kind: kinds, Out: kinds}, false)
		}
	}
	f := sketch("...")
	f.Kind, f.Out = f.Kind[:2], append(f.Out, 63)
	expectRight(t, "as many altogether", f, false)
	f.Kind, f.Out = f.Out, f.Kind
	expectRight(t, "as many altogether", f, false)
}

func TestKindsOfCells(t *testing.T) {
	for _, size := range [][3]int{{1, 1, 1}, {3, 2, 1}, {2, 2, 4}} {
		f := filled(size[0], size[1], size[2], api.CFree, 0)
		for c := range f.Kind {
			for kind := range api.CKinds {
				g := cloned(f)
				g.Kind[c] = kind
				expectRight(t, "a kind", g, true)
			}
			for _, kind := range []int{-1, api.CKinds, -2, api.CKinds + 1, 63, 64, 1 << 32, 1<<32 + 1, math.MaxInt, math.MinInt, math.MinInt + 1} {
				g := cloned(f)
				g.Kind[c] = kind
				expectRight(t, "no kind", g, false)
			}
		}
	}
}

func TestOutOfCells(t *testing.T) {
	for _, size := range [][3]int{{1, 1, 1}, {3, 2, 1}, {2, 2, 4}} {
		f := filled(size[0], size[1], size[2], api.CWall, 0)
		for c := range f.Out {
			for out := range 64 {
				g := cloned(f)
				g.Out[c] = out
				expectRight(t, "an Out", g, true)
			}
			for _, out := range []int{-1, 64, -2, 65, -63, -64, 127, 128, 1 << 32, 1<<32 + 1, math.MaxInt, math.MinInt, math.MinInt + 1} {
				g := cloned(f)
				g.Out[c] = out
				expectRight(t, "no Out", g, false)
			}
		}
	}
}

func TestElementsAtTheEndsOfTheGreatestFloor(t *testing.T) {
	for _, c := range []int{0, 1, 2047, 4094, 4095} {
		f := filled(64, 64, 1, api.CFree, 63)
		f.Kind[c] = api.CKinds
		expectRight(t, "Kind", f, false)
		f = filled(64, 64, 1, api.CFree, 63)
		f.Out[c] = 64
		expectRight(t, "Out", f, false)
	}
}

func TestElementsBeyondTheLength(t *testing.T) {
	f := sketch("..")
	f.Kind = append(f.Kind, -1)[:2]
	f.Out = append(f.Out, 64)[:2]
	expectRight(t, "beyond", f, true)
	f.Kind = f.Kind[:1]
	expectRight(t, "too short", f, false)
}

// P7.1: Cell and At.

func TestCellAndAtOfEachCell(t *testing.T) {
	for _, s := range sizes {
		f := filled(s[0], s[1], s[2], api.CFree, 0)
		c := 0
		for z := range f.D {
			for y := range f.H {
				for x := range f.W {
					expectCell(t, f, x, y, z, c)
					if a, b, d := At(f, c); a != x || b != y || d != z {
						t.Errorf("At %d: %d %d %d: %s", c, a, b, d, describe(f))
					}
					c++
				}
			}
		}
		if c != len(f.Kind) {
			t.Error(c, len(f.Kind))
		}
	}
}

func TestCellAndAtRegardNoKinds(t *testing.T) {
	for kind := range api.CKinds {
		f := filled(3, 2, 2, kind, 0)
		expectCell(t, f, 1, 1, 1, 10)
		if x, y, z := At(f, 10); x != 1 || y != 1 || z != 1 {
			t.Error(x, y, z)
		}
	}
}

func TestPlacesOutside(t *testing.T) {
	for _, s := range sizes {
		f := filled(s[0], s[1], s[2], api.CFree, 63)
		for _, x := range []int{0, f.W / 2, f.W - 1} {
			for _, y := range []int{0, f.H / 2, f.H - 1} {
				for _, z := range []int{0, f.D / 2, f.D - 1} {
					expectOutside(t, f, x, y, z)
				}
			}
		}
	}
}

// expectOutside checks that there is no cell where one or more coordinates of a place are replaced by others that are outside.
func expectOutside(t *testing.T, f api.Floor, x, y, z int) {
	t.Helper()
	xs, ys, zs := outside(f.W), outside(f.H), outside(f.D)
	for _, n := range xs {
		expectCell(t, f, n, y, z, -1)
	}
	for _, n := range ys {
		expectCell(t, f, x, n, z, -1)
	}
	for _, n := range zs {
		expectCell(t, f, x, y, n, -1)
	}
	for i := range min(len(xs), len(ys), len(zs)) {
		expectCell(t, f, xs[i], ys[i], z, -1)
		expectCell(t, f, xs[i], y, zs[i], -1)
		expectCell(t, f, x, ys[i], zs[i], -1)
		expectCell(t, f, xs[i], ys[i], zs[i], -1)
	}
}

// TestPlacesBesideARow has places outside, from which the number of a cell would follow.
func TestPlacesBesideARow(t *testing.T) {
	f := filled(3, 4, 2, api.CFree, 63)
	for _, p := range [][3]int{{3, 0, 0}, {-1, 1, 0}, {0, 4, 0}, {0, -1, 1}, {3, 3, 0}, {-1, 0, 1}, {23, 0, 0}, {-23, 0, 2}, {0, 7, 0}, {0, 8, -1}, {0, -4, 1}, {12, 0, 0}, {0, 4, 0}} {
		expectCell(t, f, p[0], p[1], p[2], -1)
	}
}

func TestAtOfNoCell(t *testing.T) {
	for _, s := range sizes {
		f := filled(s[0], s[1], s[2], api.CFree, 63)
		for _, c := range outside(len(f.Kind)) {
			if x, y, z := At(f, c); x != 0 || y != 0 || z != 0 {
				t.Errorf("At %d: %d %d %d: %s", c, x, y, z, describe(f))
			}
		}
	}
}
