package region

import (
	"slices"
	"strconv"
	"strings"
	"testing"

	"taquin/api"
)

// filled returns a floor whose cells are of one kind, with the same Out.
func filled(w, h, d, kind, out int) api.Floor {
	n := w * h * d
	return api.Floor{W: w, H: h, D: d, Kind: slices.Repeat([]int{kind}, n), Out: slices.Repeat([]int{out}, n)}
}

// sketch returns a floor of decks that are drawn: the rows of each one, separated by spaces. All bits of Out are set.
func sketch(decks ...string) api.Floor {
	rows := strings.Fields(decks[0])
	f := filled(len(rows[0]), len(rows), len(decks), api.CWall, 63)
	for c, kind := range strings.ReplaceAll(strings.Join(decks, ""), " ", "") {
		f.Kind[c] = strings.IndexRune("#.PCWEL", kind)
	}
	return f
}

// leaving returns a floor that differs from f in how its cells may be left: the first ones as the list says.
func leaving(f api.Floor, out ...int) api.Floor {
	f.Out = append(out, f.Out[len(out):]...)
	return f
}

// The bits of Out.
const (
	east  = 1 << api.East
	south = 1 << api.South
	west  = 1 << api.West
	north = 1 << api.North
	up    = 1 << api.Up
	down  = 1 << api.Down
)

// ring returns a deck of 3 rows of 3 free cells, of which those around the one in the middle can only be left along a ring; the one in the middle cannot be left.
func ring() api.Floor {
	return leaving(sketch("... ... ..."), east, east, south, north, 0, south, north, west, west)
}

// turned returns the ring that leads the other way round.
func turned() api.Floor {
	return leaving(sketch("... ... ..."), south, west, west, south, 0, north, east, east, north)
}

// describe writes a floor, for messages.
func describe(f api.Floor) string {
	s := strconv.Itoa(f.W) + "x" + strconv.Itoa(f.H) + "x" + strconv.Itoa(f.D)
	for c := range min(len(f.Kind), 40) {
		s += " " + strconv.Itoa(f.Kind[c]) + "/" + strconv.Itoa(f.Out[c])
	}
	return s
}

// sameParts reports whether lists of regions are equal.
func sameParts(a, b [][]int) bool {
	return slices.EqualFunc(a, b, slices.Equal)
}

// expectParts checks what Parts says of a region, and what follows of Linked.
func expectParts(t *testing.T, about string, f api.Floor, r []int, want ...[]int) {
	t.Helper()
	if got := Parts(f, r); !sameParts(got, want) {
		t.Errorf("%s: the parts of %s are %s instead of %s: %s", about, brief(r), brief(got), brief(want), describe(f))
	}
	linked := len(r) == 0 || len(want) == 1 && len(want[0]) == len(r)
	if got := Linked(f, r); got != linked {
		t.Errorf("%s: %s is linked: %t: %s", about, brief(r), got, describe(f))
	}
}

// P8.2: Linked and Parts.

func TestPartsOfTheEmptyRegion(t *testing.T) {
	for _, f := range []api.Floor{sketch("."), sketch("#"), sketch("...", "L.L"), filled(64, 64, 1, api.CFree, 63)} {
		expectParts(t, "nil", f, nil)
		expectParts(t, "empty", f, []int{})
		expectBool(t, "Linked", Linked(f, nil), true)
		expectBool(t, "Linked", Linked(f, []int{}), true)
	}
}

func TestPartsOfOneCell(t *testing.T) {
	for _, out := range []int{0, 63} {
		f := filled(3, 1, 1, api.CFree, out)
		for kind := range api.CKinds {
			f.Kind[1] = kind
			if kind == api.CWall {
				expectParts(t, "a wall", f, []int{1})
				expectBool(t, "a wall", Linked(f, []int{1}), false)
			} else {
				expectParts(t, "no wall", f, []int{1}, []int{1})
				expectBool(t, "no wall", Linked(f, []int{1}), true)
			}
		}
		for _, c := range []int{3, 4, 100, 4095} {
			expectParts(t, "no cell", f, []int{c})
			expectBool(t, "no cell", Linked(f, []int{c}), false)
		}
		expectParts(t, "the first", f, []int{0}, []int{0})
		expectParts(t, "the last", f, []int{2}, []int{2})
	}
	expectParts(t, "a single cell", sketch("."), []int{0}, []int{0})
	expectParts(t, "a single wall", sketch("#"), []int{0})
}

func TestParts(t *testing.T) {
	example := leaving(sketch("..."), 63, 1)
	open := sketch("... ... ...")
	for _, c := range []struct {
		about string
		f     api.Floor
		r     []int
		want  [][]int
	}{
		{"beside each other", open, []int{0, 1}, [][]int{{0, 1}}},
		{"below each other", open, []int{1, 4}, [][]int{{1, 4}}},
		{"apart", open, []int{0, 2}, [][]int{{0}, {2}}},
		{"diagonal", open, []int{0, 4, 8}, [][]int{{0}, {4}, {8}}},
		{"the ends of two rows", open, []int{2, 3}, [][]int{{2}, {3}}},
		{"a deck", open, upTo(0, 8), [][]int{upTo(0, 8)}},
		{"around the middle", open, []int{0, 1, 2, 3, 5, 6, 7, 8}, [][]int{{0, 1, 2, 3, 5, 6, 7, 8}}},
		{"columns", open, []int{0, 2, 3, 5, 6, 8}, [][]int{{0, 3, 6}, {2, 5, 8}}},
		{"within others", open, []int{0, 2, 3, 6, 7, 8}, [][]int{{0, 3, 6, 7, 8}, {2}}},
		{"the later one first, by its least cell", open, []int{1, 3, 4, 6, 8}, [][]int{{1, 3, 4, 6}, {8}}},

		{"the wall left out", sketch(".#."), []int{0, 2}, [][]int{{0}, {2}}},
		{"with the wall", sketch(".#."), []int{0, 1, 2}, [][]int{{0}, {2}}},
		{"a wall first", sketch("#.."), []int{0, 1, 2}, [][]int{{1, 2}}},
		{"a wall last", sketch("..#"), []int{0, 1, 2}, [][]int{{0, 1}}},
		{"around a wall", sketch(".#. ..."), []int{0, 1, 2, 3, 4, 5}, [][]int{{0, 2, 3, 4, 5}}},
		{"walls alone", sketch("##. .##"), []int{0, 1, 4, 5}, nil},
		{"kinds", sketch("#.PCWEL"), upTo(0, 6), [][]int{upTo(1, 6)}},
		{"kinds but walls", sketch("#.PCWEL"), upTo(1, 6), [][]int{upTo(1, 6)}},
		{"no cell of the floor", sketch(".."), []int{0, 1, 2}, [][]int{{0, 1}}},
		{"no cells of the floor", sketch("..#"), []int{0, 2, 3, 4, 5, 4094, 4095}, [][]int{{0}}},

		{"example", example, []int{0, 1, 2}, [][]int{{0}, {1, 2}}},
		{"a step back is missing", example, []int{0, 1}, [][]int{{0}, {1}}},
		{"both steps are there", example, []int{1, 2}, [][]int{{1, 2}}},
		{"one way east", filled(5, 1, 1, api.CFree, east), upTo(0, 4), [][]int{{0}, {1}, {2}, {3}, {4}}},
		{"one way west", filled(5, 1, 1, api.CFree, west), upTo(0, 4), [][]int{{0}, {1}, {2}, {3}, {4}}},
		{"one way south", filled(1, 4, 1, api.CFree, south), upTo(0, 3), [][]int{{0}, {1}, {2}, {3}}},
		{"one way north", filled(1, 4, 1, api.CFree, north), upTo(0, 3), [][]int{{0}, {1}, {2}, {3}}},
		{"towards each other", leaving(sketch("...."), east, east, west, west), upTo(0, 3), [][]int{{0}, {1, 2}, {3}}},
		{"from each other", leaving(sketch("...."), 63, west, east, 63), upTo(0, 3), [][]int{{0, 1}, {2, 3}}},
		{"no steps", filled(3, 2, 1, api.CFree, 0), upTo(0, 5), [][]int{{0}, {1}, {2}, {3}, {4}, {5}}},

		{"a ring", ring(), []int{0, 1, 2, 3, 5, 6, 7, 8}, [][]int{{0, 1, 2, 3, 5, 6, 7, 8}}},
		{"a ring the other way round", turned(), []int{0, 1, 2, 3, 5, 6, 7, 8}, [][]int{{0, 1, 2, 3, 5, 6, 7, 8}}},
		{"a ring and its middle", ring(), upTo(0, 8), [][]int{{0, 1, 2, 3, 5, 6, 7, 8}, {4}}},
		{"a ring, from which one gets to the middle", leaving(ring(), east, east|south), upTo(0, 8), [][]int{{0, 1, 2, 3, 5, 6, 7, 8}, {4}}},
		{"a ring, to which one gets from the middle", leaving(ring(), east, east, south, north, west), upTo(0, 8), [][]int{{0, 1, 2, 3, 5, 6, 7, 8}, {4}}},
		{"a ring with its middle", leaving(ring(), east, east|south, south, north, west), upTo(0, 8), [][]int{upTo(0, 8)}},
		{"a part of a ring", ring(), []int{0, 1, 2, 3, 5, 6, 7}, [][]int{{0}, {1}, {2}, {3}, {5}, {6}, {7}}},
		{"another part of a ring", ring(), []int{1, 2, 3, 5, 6, 7, 8}, [][]int{{1}, {2}, {3}, {5}, {6}, {7}, {8}}},
		{"two rings, a step from the first one", leaving(sketch(".... ...."), east, south|east, east, south, north, west, north, west), upTo(0, 7), [][]int{{0, 1, 4, 5}, {2, 3, 6, 7}}},
		{"two rings, a step to the first one", leaving(sketch(".... ...."), east, south, east, south, north, west, north|west, west), upTo(0, 7), [][]int{{0, 1, 4, 5}, {2, 3, 6, 7}}},
		{"two rings, both steps", leaving(sketch(".... ...."), east, south|east, east, south, north, west, north|west, west), upTo(0, 7), [][]int{upTo(0, 7)}},

		{"decks", sketch("..", ".."), upTo(0, 3), [][]int{{0, 1}, {2, 3}}},
		{"decks, above each other", sketch("..", ".."), []int{0, 2}, [][]int{{0}, {2}}},
		{"the end of a deck and the beginning of the next one", sketch("..", ".."), []int{1, 2}, [][]int{{1}, {2}}},
		{"a lift below", sketch("L.", ".."), upTo(0, 3), [][]int{{0, 1}, {2, 3}}},
		{"a lift above", sketch("..", "L."), upTo(0, 3), [][]int{{0, 1}, {2, 3}}},
		{"lifts", sketch("L.", "L."), upTo(0, 3), [][]int{upTo(0, 3)}},
		{"lifts that are not above each other", sketch("L.", ".L"), upTo(0, 3), [][]int{{0, 1}, {2, 3}}},
		{"lifts, one left out", sketch("L.", "L."), []int{0, 1, 3}, [][]int{{0, 1}, {3}}},
		{"lifts, up only", leaving(sketch("L.", "L."), 63, 63, 63-down), upTo(0, 3), [][]int{{0, 1}, {2, 3}}},
		{"lifts, down only", leaving(sketch("L.", "L."), 63-up), upTo(0, 3), [][]int{{0, 1}, {2, 3}}},
		{"up one lift and down the other", leaving(sketch("L.L", "L.L"), 63, 63, 63-up, 63-down), upTo(0, 5), [][]int{upTo(0, 5)}},
		{"lifts of four decks", sketch("L", "L", "L", "L"), upTo(0, 3), [][]int{upTo(0, 3)}},
		{"lifts, the deck between left out", sketch("L.", "L.", "L."), []int{0, 1, 4, 5}, [][]int{{0, 1}, {4, 5}}},
		{"lifts, a deck between without one", sketch("L", ".", "L"), upTo(0, 2), [][]int{{0}, {1}, {2}}},

		{"the only way leaves the region", sketch("... .#. ..."), []int{0, 1, 2, 3, 5, 8}, [][]int{{0, 1, 2, 3, 5, 8}}},
		{"the only way leaves the region at the top", sketch(".#. .#. ..."), []int{0, 2, 3, 5, 6, 8}, [][]int{{0, 3, 6}, {2, 5, 8}}},
		{"the way back leaves the region", ring(), []int{0, 1}, [][]int{{0}, {1}}},
		{"the way over the other deck leaves the region", sketch("L#L", "L.L"), []int{0, 2, 3, 5}, [][]int{{0, 3}, {2, 5}}},
	} {
		expectParts(t, c.about, c.f, c.r, c.want...)
	}
}

func TestLinked(t *testing.T) {
	open := sketch("... ... ...")
	for _, c := range []struct {
		about string
		f     api.Floor
		r     []int
		want  bool
	}{
		{"a row", open, []int{3, 4, 5}, true},
		{"a corner", open, []int{0, 1, 3}, true},
		{"a row with a gap", open, []int{3, 5}, false},
		{"one part and a wall", sketch("..#"), []int{0, 1, 2}, false},
		{"a wall and one part", sketch("#.."), []int{0, 1, 2}, false},
		{"two walls", sketch("##"), []int{0, 1}, false},
		{"one part and no cell", sketch(".."), []int{0, 1, 2}, false},
		{"one part and the greatest number", sketch(".."), []int{0, 1, 4095}, false},
		{"one cell and no cell", sketch("."), []int{0, 1}, false},
		{"no cells", sketch("."), []int{1, 2}, false},
		{"there, and not back", leaving(sketch(".."), east, 0), []int{0, 1}, false},
		{"back, and not there", leaving(sketch(".."), 0, west), []int{0, 1}, false},
		{"there and back", leaving(sketch(".."), east, west), []int{0, 1}, true},
		{"from the first one to all", leaving(sketch("..."), 63, 63, 0), []int{0, 1, 2}, false},
		{"from all to the first one", leaving(sketch("..."), 63, west), []int{0, 1, 2}, false},
		{"a ring", ring(), []int{0, 1, 2, 3, 5, 6, 7, 8}, true},
		{"a ring and its middle", ring(), upTo(0, 8), false},
	} {
		if got := Linked(c.f, c.r); got != c.want {
			t.Errorf("%s: %t", c.about, got)
		}
	}
}

// P8.2: the greatest floors.

// snake returns a deck of 64 rows of 64 cells that can only be left along a ring through all of them: the cells in its order. Its rows lead there and back beside the first column, which leads back to the first row.
func snake() (api.Floor, []int) {
	f := filled(64, 64, 1, api.CFree, 0)
	var way []int
	add := func(c, out int) {
		f.Out[c] = out
		way = append(way, c)
	}
	add(0, east)
	for y := range 64 {
		for x := 1; x < 63; x++ {
			if y%2 == 0 {
				add(y*64+x, east)
			} else {
				add(y*64+64-x, west)
			}
		}
		last := y*64 + 63 - y%2*62
		add(last, south)
	}
	f.Out[63*64+1] = west
	for y := 63; y > 0; y-- {
		add(y*64, north)
	}
	return f, way
}

func TestPartsOfTheSnake(t *testing.T) {
	f, way := snake()
	all := upTo(0, 4095)
	expectParts(t, "the ring", f, all, all)
	for _, cut := range []int{0, 1, 2000, 4095} {
		rest := Diff(all, []int{way[cut]})
		var single [][]int
		for _, c := range rest {
			single = append(single, []int{c})
		}
		expectParts(t, "cut", f, rest, single...)
		expectBool(t, "cut", Linked(f, rest), false)
	}
}

func TestPartsOfGreatestFloors(t *testing.T) {
	all := upTo(0, 4095)
	for _, s := range [][3]int{{64, 64, 1}, {4096, 1, 1}, {1, 4096, 1}, {32, 32, 4}, {1, 1024, 4}, {2, 2048, 1}} {
		f := filled(s[0], s[1], s[2], api.CLift, 63)
		expectParts(t, "all", f, all, all)
		expectBool(t, "all", Linked(f, all), true)
		expectParts(t, "the last cell", f, []int{4095}, []int{4095})
		var even []int
		var single [][]int
		for c := range 4096 {
			x, y, z := c%s[0], c/s[0]%s[1], c/s[0]/s[1]
			if (x+y+z)%2 == 0 {
				even, single = append(even, c), append(single, []int{c})
			}
		}
		expectParts(t, "every second cell", f, even, single...)
		expectParts(t, "walls", filled(s[0], s[1], s[2], api.CWall, 63), all)
		expectBool(t, "walls", Linked(filled(s[0], s[1], s[2], api.CWall, 63), all), false)
	}
	f := filled(64, 64, 1, api.CPort, 63)
	var without []int
	for c := range 4096 {
		if c/64 != 20 {
			without = append(without, c)
		}
	}
	expectParts(t, "without a row", f, without, upTo(0, 20*64-1), upTo(21*64, 4095))
}

func TestPartsOfLongRowsOneWay(t *testing.T) {
	var single [][]int
	for c := range 4096 {
		single = append(single, []int{c})
	}
	for back, out := range map[int]int{8: east, 7: west} {
		f := filled(4096, 1, 1, api.CFree, out)
		expectParts(t, "one way", f, upTo(0, 4095), single...)
		f.Out[back] = 63
		want := slices.Concat(single[:7], [][]int{{7, 8}}, single[9:])
		expectParts(t, "one way but for two cells", f, upTo(0, 4095), want...)
	}
}
