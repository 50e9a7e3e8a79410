package region

import (
	"slices"
	"testing"

	"taquin/api"
)

// P8.3: Edge.

func TestEdge(t *testing.T) {
	open := sketch("... ... ...")
	inwards := leaving(open, east|south, south, south|west, east, 0, west, north|east, north, north|west)
	for _, c := range []struct {
		about   string
		f       api.Floor
		r, want []int
	}{
		{"nil", open, nil, nil},
		{"empty", open, []int{}, nil},
		{"the whole floor", open, upTo(0, 8), nil},
		{"the whole floor, and more", open, upTo(0, 4095), nil},
		{"the whole floor with walls", sketch("#.#. ...."), upTo(0, 7), nil},
		{"a floor of one cell", sketch("."), []int{0}, nil},
		{"a single cell", open, []int{4}, []int{4}},
		{"a single cell at a corner", open, []int{8}, []int{8}},
		{"a row at the side", open, []int{0, 1, 2}, []int{0, 1, 2}},
		{"all but one", open, []int{0, 1, 2, 3, 4, 5, 6, 7}, []int{5, 7}},
		{"all but the first one", open, upTo(1, 8), []int{1, 3}},
		{"all but the middle", open, []int{0, 1, 2, 3, 5, 6, 7, 8}, []int{1, 3, 5, 7}},
		{"a cell within", sketch("..... ..... ..... ....."), []int{1, 5, 6, 7, 11}, []int{1, 5, 7, 11}},
		{"example", leaving(sketch("..."), 63, 1), []int{0, 1}, []int{1}},

		{"closed in by walls", sketch("#.# #.# ###"), []int{1, 4}, nil},
		{"closed in by walls of the region", sketch("#.# #.# ###"), upTo(0, 4), nil},
		{"walls lead nowhere", sketch("#.#"), []int{0, 2}, nil},
		{"a wall, and a cell that leads out", sketch("#.."), []int{0, 1}, []int{1}},
		{"no cells of the floor", open, []int{9, 100, 4095}, nil},
		{"no cells of the floor, and one that is", open, []int{8, 9, 4095}, []int{8}},
		{"the ends of two rows", sketch(".# .."), []int{0, 2, 3}, nil},

		{"inwards only", inwards, upTo(0, 5), nil},
		{"inwards, but for one step", inwards, upTo(0, 4), []int{2}},
		{"entered from all sides, but not left", leaving(open, 63, 63, 63, 63, 0), []int{4}, nil},
		{"entered, but not left", leaving(sketch("..."), 63, 0), []int{1}, nil},
		{"entered, but not left, beside one that is", leaving(sketch("..."), 63, 0), []int{1, 2}, nil},
		{"left, but not entered", leaving(sketch("..."), 0, 63, 0), []int{1}, []int{1}},
		{"out in one direction", leaving(sketch("..."), 63, west), []int{1, 2}, []int{1}},
		{"within in one direction", leaving(sketch("..."), 63, east), []int{1, 2}, nil},
		{"no steps", filled(3, 3, 1, api.CFree, 0), []int{0, 4}, nil},
		{"a ring", ring(), []int{0, 1, 2}, []int{2}},
		{"a ring without one", ring(), []int{0, 1, 2, 3, 5, 6, 7}, []int{5}},
		{"a ring without its middle", ring(), []int{0, 1, 2, 3, 5, 6, 7, 8}, nil},

		{"the other deck", sketch("..", ".."), []int{0, 1}, nil},
		{"up", sketch("L.", "L."), []int{0, 1}, []int{0}},
		{"down", sketch("L.", "L."), []int{2, 3}, []int{2}},
		{"up and down", sketch("L.", "L.", "L."), []int{2, 3}, []int{2}},
		{"up is missing", leaving(sketch("L.", "L."), 63-up), []int{0, 1}, nil},
		{"no lift above", sketch("L.", ".L"), []int{0, 1}, nil},
		{"the lift above is within", sketch("L.", "L."), []int{0, 1, 2}, []int{2}},
	} {
		expectList(t, c.about, Edge(c.f, c.r), c.want...)
	}
}

func TestEdgeInEachDirection(t *testing.T) {
	for out := range 64 {
		f := filled(3, 3, 3, api.CLift, 63)
		f.Out[13] = out
		beside := []int{14, 16, 12, 10, 22, 4} // by directions
		for d, n := range beside {
			edge := Edge(f, Diff(upTo(0, 26), []int{n}))
			expectBool(t, "the middle", Has(edge, 13), out>>d%2 == 1)
		}
		for d := range beside {
			f.Out[13] = out & (1 << d)
			want := []int{13}[:out>>d%2]
			expectList(t, "the middle alone", Edge(f, []int{13}), want...)
			expectList(t, "the middle and the cell beside", Inter(Edge(f, Of([]int{13, beside[d]})), []int{13}))
		}
	}
}

func TestEdgeOfGreatestFloors(t *testing.T) {
	f := filled(64, 64, 1, api.CFree, 63)
	var inner, edge []int
	for y := 1; y < 63; y++ {
		for x := 1; x < 63; x++ {
			inner = append(inner, y*64+x)
			if y == 1 || y == 62 || x == 1 || x == 62 {
				edge = append(edge, y*64+x)
			}
		}
	}
	expectList(t, "inner cells", Edge(f, inner), edge...)
	expectList(t, "all", Edge(f, upTo(0, 4095)))
	expectList(t, "all but the last", Edge(f, upTo(0, 4094)), 4031, 4094)
	expectList(t, "the last", Edge(f, []int{4095}), 4095)
	expectList(t, "a deck", Edge(filled(32, 32, 4, api.CLift, 63), upTo(1024, 2047)), upTo(1024, 2047)...)
	snake, way := snake()
	expectList(t, "a part of the snake", Edge(snake, Of(way[10:3000])), way[2999])
}

// P8.3: Inside.

func TestInside(t *testing.T) {
	open := sketch("... ... ...")
	around := []int{0, 1, 2, 3, 5, 6, 7, 8}
	rooms := sketch(".#. .#. ...")
	for _, c := range []struct {
		about         string
		f             api.Floor
		r, from, want []int
	}{
		{"from nil", open, upTo(0, 8), nil, []int{-1, -1, -1, -1, -1, -1, -1, -1, -1}},
		{"from empty", open, []int{0, 4}, []int{}, []int{-1, -1}},
		{"nil", open, nil, []int{0}, nil},
		{"empty", open, []int{}, []int{0, 1}, nil},
		{"all from nothing", open, nil, nil, nil},
		{"example", leaving(sketch("..."), 63, 1), []int{0, 1, 2}, []int{2}, []int{-1, 1, 0}},

		{"a deck", open, upTo(0, 8), []int{0}, []int{0, 1, 2, 1, 2, 3, 2, 3, 4}},
		{"a deck from the middle", open, upTo(0, 8), []int{4}, []int{2, 1, 2, 1, 0, 1, 2, 1, 2}},
		{"from several", open, upTo(0, 8), []int{8, 0}, []int{0, 1, 2, 1, 2, 1, 2, 1, 0}},
		{"from all", open, []int{0, 1, 5}, []int{5, 1, 0}, []int{0, 0, 0}},
		{"the same several times", open, upTo(0, 8), []int{0, 0, 4, 0, 4}, []int{0, 1, 2, 1, 0, 1, 2, 1, 2}},
		{"not the first cells", open, []int{3, 4, 5, 8}, []int{8}, []int{3, 2, 1, 0}},
		{"around the middle", open, around, []int{1}, []int{1, 0, 1, 2, 2, 3, 4, 3}},
		{"around the middle, from two sides", open, around, []int{3, 5}, []int{1, 2, 1, 0, 0, 1, 2, 1}},
		{"longer, as the way within the region is", open, []int{0, 2, 3, 5, 6, 7, 8}, []int{0}, []int{0, 6, 1, 5, 2, 3, 4}},

		{"from outside", open, []int{0, 1}, []int{2, 4, 8}, []int{-1, -1}},
		{"from outside and within", open, []int{0, 1, 2}, []int{3, 2, 5}, []int{2, 1, 0}},
		{"from a wall", rooms, upTo(0, 8), []int{1, 4}, []int{-1, -1, -1, -1, -1, -1, -1, -1, -1}},
		{"from a wall and others", rooms, upTo(0, 8), []int{1, 0}, []int{0, -1, 6, 1, -1, 5, 2, 3, 4}},
		{"a region of walls", rooms, []int{1, 4}, []int{1, 4}, []int{-1, -1}},
		{"from numbers of no cells", open, []int{0, 1}, []int{-1, 9, 4095, 4096, 1 << 62, -1 << 62}, []int{-1, -1}},
		{"from numbers of no cells and others", open, []int{0, 1}, append(noNumbers(), 9, 1, 10), []int{1, 0}},
		{"cells that are none", open, []int{0, 1, 9, 10, 4095}, []int{0, 9, 4095}, []int{0, 1, -1, -1, -1}},
		{"all cells are none", sketch("."), []int{1, 4095}, []int{0, 1, 4095}, []int{-1, -1}},

		{"out of reach", rooms, []int{0, 2, 3, 5, 6, 8}, []int{3}, []int{1, -1, 0, -1, 1, -1}},
		{"in reach by a way that leaves the region", open, []int{0, 1, 7, 8}, []int{0}, []int{0, 1, -1, -1}},
		{"the shortest way leaves the region", sketch(".... ...."), []int{0, 3, 4, 5, 6, 7}, []int{0}, []int{0, 5, 1, 2, 3, 4}},
		{"apart", open, []int{0, 2}, []int{0}, []int{0, -1}},
		{"the ends of two rows", open, []int{2, 3}, []int{2}, []int{0, -1}},

		{"one way", filled(4, 1, 1, api.CFree, east), upTo(0, 3), []int{1}, []int{-1, 0, 1, 2}},
		{"one way back", filled(4, 1, 1, api.CFree, west), upTo(0, 3), []int{2}, []int{2, 1, 0, -1}},
		{"a ring", ring(), around, []int{0}, []int{0, 1, 2, 7, 3, 6, 5, 4}},
		{"a ring that the region cuts", ring(), []int{0, 1, 2, 3, 6, 7, 8}, []int{1, 8}, []int{4, 0, 1, 3, 2, 1, 0}},
		{"entered, but not left", leaving(sketch("..."), 63, 0), []int{0, 1, 2}, []int{0}, []int{0, 1, -1}},

		{"decks", sketch("..", ".."), upTo(0, 3), []int{1}, []int{1, 0, -1, -1}},
		{"lifts", sketch("L.", "L."), upTo(0, 3), []int{1}, []int{1, 0, 2, 3}},
		{"lifts, down", sketch("L.", "L.", "L."), upTo(0, 5), []int{5}, []int{3, 4, 2, 3, 1, 0}},
		{"lifts, one left out", sketch("L.", "L."), []int{0, 1, 3}, []int{0}, []int{0, 1, -1}},
		{"lifts, the deck between left out", sketch("L.", "L.", "L."), []int{0, 1, 4, 5}, []int{0}, []int{0, 1, -1, -1}},
		{"kinds", sketch("#.PCWEL"), upTo(0, 6), []int{1}, []int{-1, 0, 1, 2, 3, 4, 5}},
	} {
		expectList(t, c.about, Inside(c.f, c.r, c.from), c.want...)
	}
}

func TestInsideOfGreatestFloors(t *testing.T) {
	f, way := snake()
	expected := make([]int, 4096)
	for i, c := range way {
		expected[c] = i
	}
	all := upTo(0, 4095)
	expectList(t, "the snake", Inside(f, all, []int{0}), expected...)
	for i, c := range way {
		expected[c] = min(i, (i+4096-3000)%4096)
		if i >= 2000 && i < 3000 {
			expected[c] = -1
		}
	}
	cut := Diff(all, []int{way[2000]})
	expectList(t, "cut", Inside(f, cut, []int{way[3000], 0}), slices.Delete(expected, way[2000], way[2000]+1)...)
	row := filled(4096, 1, 1, api.CFree, 63)
	expectList(t, "a row", Inside(row, all, []int{0}), all...)
	expectList(t, "a row, from all", Inside(row, all, all), make([]int, 4096)...)
	expectList(t, "a row, from nothing", Inside(row, all, nil), slices.Repeat([]int{-1}, 4096)...)
	expectList(t, "a row, from a long list", Inside(row, all, slices.Repeat([]int{-1, 0, 4096}, 100000)), all...)
	expectList(t, "the end of a row", Inside(row, []int{4094, 4095}, []int{4094}), 0, 1)
	expectList(t, "walls", Inside(filled(4096, 1, 1, api.CWall, 63), all, all), slices.Repeat([]int{-1}, 4096)...)
	decks := filled(32, 32, 4, api.CLift, 63)
	for c, length := range Inside(decks, all, []int{0}) {
		if length != c%32+c/32%32+c/1024 {
			t.Fatal(c, length)
		}
	}
}
