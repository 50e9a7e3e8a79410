package floor

import (
	"slices"
	"testing"

	"taquin/api"
)

// P7.4: Dist.

func TestDist(t *testing.T) {
	rooms := sketch(".#.# .##. ..#.", "LLLL LLLL LLLL")
	for _, c := range []struct {
		about       string
		f           api.Floor
		from, avoid []int
		want        []int
	}{
		{"a single cell", filled(1, 1, 1, api.CFree, 0), []int{0}, nil, []int{0}},
		{"a row", sketch("....."), []int{1}, nil, []int{1, 0, 1, 2, 3}},
		{"a column", sketch(". . . ."), []int{3}, nil, []int{3, 2, 1, 0}},
		{"decks", sketch("L", "L", "L", "L"), []int{2}, nil, []int{2, 1, 0, 1}},
		{"an open deck", sketch("... ... ..."), []int{0}, nil, []int{0, 1, 2, 1, 2, 3, 2, 3, 4}},
		{"from the middle", sketch("... ... ..."), []int{4}, nil, []int{2, 1, 2, 1, 0, 1, 2, 1, 2}},
		{"kinds but walls", sketch("#.PCWEL"), []int{1}, nil, []int{-1, 0, 1, 2, 3, 4, 5}},
		{"around a wall", sketch(".#. .#. ..."), []int{0}, nil, []int{0, -1, 6, 1, -1, 5, 2, 3, 4}},
		{"no lift", sketch("..", "..", ".."), []int{2}, nil, []int{-1, -1, 0, 1, -1, -1}},
		{"one lift", sketch("...", "L..", "L.."), []int{2}, nil, []int{2, 1, 0, -1, -1, -1, -1, -1, -1}},
		{"a lift", sketch("L..", "L..", "..."), []int{2}, nil, []int{2, 1, 0, 3, 4, 5, -1, -1, -1}},
		{"lifts", sketch("L..", "L.L", "#.L"), []int{2}, nil, []int{2, 1, 0, 3, 4, 5, -1, 7, 6}},
		{"rooms", rooms, []int{4}, nil, []int{1, -1, -1, -1, 0, -1, -1, -1, 1, 2, -1, -1, -1, -1, -1, -1, -1, -1, -1, -1, -1, -1, -1, -1}},
		{"other rooms", rooms, []int{2, 11}, nil, []int{-1, -1, 0, -1, -1, -1, -1, 1, -1, -1, -1, 0, -1, -1, -1, -1, -1, -1, -1, -1, -1, -1, -1, -1}},
		{"an open deck above", rooms, []int{23}, nil, []int{-1, -1, -1, -1, -1, -1, -1, -1, -1, -1, -1, -1, 5, 4, 3, 2, 4, 3, 2, 1, 3, 2, 1, 0}},
	} {
		expectList(t, c.about, Dist(c.f, c.from, c.avoid), c.want...)
	}
}

func TestDistFromSeveralCells(t *testing.T) {
	f := sketch("....... #.....#")
	for _, c := range []struct {
		from, want []int
	}{
		{[]int{0, 6}, []int{0, 1, 2, 3, 2, 1, 0, -1, 2, 3, 4, 3, 2, -1}},
		{[]int{6, 0}, []int{0, 1, 2, 3, 2, 1, 0, -1, 2, 3, 4, 3, 2, -1}},
		{[]int{0, 1, 2}, []int{0, 0, 0, 1, 2, 3, 4, -1, 1, 1, 2, 3, 4, -1}},
		{[]int{2, 2, 0, 2, 0}, []int{0, 1, 0, 1, 2, 3, 4, -1, 2, 1, 2, 3, 4, -1}},
		{[]int{8, 5, 12}, []int{2, 1, 2, 2, 1, 0, 1, -1, 0, 1, 2, 1, 0, -1}},
		{[]int{0, 1, 2, 3, 4, 5, 6, 7, 8, 9, 10, 11, 12, 13}, []int{0, 0, 0, 0, 0, 0, 0, -1, 0, 0, 0, 0, 0, -1}},
	} {
		expectList(t, "several", Dist(f, c.from, nil), c.want...)
	}
}

func TestDistFromNothing(t *testing.T) {
	f := sketch(".#. ...", "L.. L..")
	nothing := slices.Repeat([]int{-1}, 12)
	for _, from := range [][]int{nil, {}, {1}, {1, 1}, {-1}, {12}, outside(12), append(outside(12), 1)} {
		for _, avoid := range [][]int{nil, {}, {0}, {1}, {-1, 12}} {
			expectList(t, "from nothing", Dist(f, from, avoid), nothing...)
		}
	}
	for _, f := range []api.Floor{filled(1, 1, 1, api.CWall, 63), filled(2, 1, 2, api.CWall, 63)} {
		expectList(t, "walls", Dist(f, []int{0, 1}, nil), nothing[:len(f.Kind)]...)
	}
}

func TestDistAvoids(t *testing.T) {
	f := sketch("..... .....")
	for _, c := range []struct {
		from, avoid, want []int
	}{
		{[]int{0}, nil, []int{0, 1, 2, 3, 4, 1, 2, 3, 4, 5}},
		{[]int{0}, []int{}, []int{0, 1, 2, 3, 4, 1, 2, 3, 4, 5}},
		{[]int{0}, []int{1}, []int{0, -1, 4, 5, 6, 1, 2, 3, 4, 5}},
		{[]int{0}, []int{1, 6}, []int{0, -1, -1, -1, -1, 1, -1, -1, -1, -1}},
		{[]int{0}, []int{6, 1, 6, 1, 1}, []int{0, -1, -1, -1, -1, 1, -1, -1, -1, -1}},
		{[]int{0}, []int{5, 1}, []int{0, -1, -1, -1, -1, -1, -1, -1, -1, -1}},
		{[]int{0}, []int{0}, []int{-1, -1, -1, -1, -1, -1, -1, -1, -1, -1}},
		{[]int{0, 4}, []int{0}, []int{-1, 3, 2, 1, 0, 5, 4, 3, 2, 1}},
		{[]int{4, 0}, []int{0, 3}, []int{-1, 5, 4, -1, 0, 5, 4, 3, 2, 1}},
		{[]int{0, 4}, []int{4, 0}, []int{-1, -1, -1, -1, -1, -1, -1, -1, -1, -1}},
		{[]int{0}, []int{9, 2, 7}, []int{0, 1, -1, -1, -1, 1, 2, -1, -1, -1}},
	} {
		expectList(t, "avoids", Dist(f, c.from, c.avoid), c.want...)
	}
	f.Kind[6] = api.CWall
	expectList(t, "a wall, avoided, too", Dist(f, []int{0, 6}, []int{6, 1}), 0, -1, -1, -1, -1, 1, -1, -1, -1, -1)
}

func TestNumbersThatAreNoCells(t *testing.T) {
	f := sketch(".... .##.", "L... ....")
	f.Kind[0] = api.CLift
	want := Dist(f, []int{5, 7, 9}, []int{3, 12})
	if slices.Max(want) < 3 {
		t.Fatal(want)
	}
	for _, n := range outside(16) {
		expectList(t, "in from", Dist(f, []int{n, 5, 7, n, 9, n}, []int{3, 12}), want...)
		expectList(t, "in avoid", Dist(f, []int{5, 7, 9}, []int{n, 3, 12, n, n}), want...)
		expectList(t, "in both", Dist(f, []int{n, 5, 7, 9}, []int{3, 12, n}), want...)
		expectList(t, "on a way", Path(f, 8, 5, []int{n}), Path(f, 8, 5, nil)...)
	}
	expectList(t, "all", Dist(f, append(outside(16), 9, 7, 5), append(outside(16), 12, 3)), want...)
}

// oneway returns a ring of 8 cells around a wall, each of which may be left only along the ring, clockwise.
func oneway() api.Floor {
	f := sketch("... .#. ...")
	f.Out = []int{1 << api.East, 1 << api.East, 1 << api.South, 1 << api.North, 0, 1 << api.South, 1 << api.North, 1 << api.West, 1 << api.West}
	return f
}

func TestOneWay(t *testing.T) {
	f := oneway()
	expectList(t, "Dist", Dist(f, []int{0}, nil), 0, 1, 2, 7, -1, 3, 6, 5, 4)
	expectList(t, "Dist", Dist(f, []int{5}, nil), 5, 6, 7, 4, -1, 0, 3, 2, 1)
	expectList(t, "Dist", Dist(f, []int{5, 3}, []int{2}), 1, 2, -1, 0, -1, 0, 3, 2, 1)
	expectList(t, "Path", Path(f, 0, 1, nil), 0, 1)
	expectList(t, "Path", Path(f, 1, 0, nil), 1, 2, 5, 8, 7, 6, 3, 0)
	expectList(t, "Path", Path(f, 1, 0, []int{7}))
	f.Out[8] = 0 // cannot be left, but entered
	expectList(t, "Dist", Dist(f, []int{0}, nil), 0, 1, 2, -1, -1, 3, -1, -1, 4)
	expectList(t, "Dist", Dist(f, []int{8}, nil), -1, -1, -1, -1, -1, -1, -1, -1, 0)
	expectList(t, "Path", Path(f, 0, 8, nil), 0, 1, 2, 5, 8)
	expectList(t, "Path", Path(f, 0, 7, nil))
	expectList(t, "Path", Path(f, 8, 8, nil), 8)
	lifts := sketch("L", "L", "L")
	lifts.Out = []int{1 << api.Up, 1 << api.Up, 0}
	expectList(t, "Dist", Dist(lifts, []int{0}, nil), 0, 1, 2)
	expectList(t, "Dist", Dist(lifts, []int{1}, nil), -1, 0, 1)
	expectList(t, "Path", Path(lifts, 0, 2, nil), 0, 1, 2)
	expectList(t, "Path", Path(lifts, 2, 0, nil))
}

// P7.5: Path.

// open is a deck of 3 rows of 3 cells.
func open() api.Floor {
	return sketch("... ... ...")
}

func TestPath(t *testing.T) {
	decks := sketch("L.L ...", "L.L ...", "..L ...")
	for _, c := range []struct {
		about string
		f     api.Floor
		a, b  int
		avoid []int
		want  []int
	}{
		{"beside", open(), 4, 5, nil, []int{4, 5}},
		{"straight", open(), 8, 2, nil, []int{8, 5, 2}},
		{"around what is avoided", open(), 3, 5, []int{4}, []int{3, 6, 7, 8, 5}},
		{"the other way round", open(), 3, 5, []int{4, 7}, []int{3, 0, 1, 2, 5}},
		{"closed", open(), 3, 5, []int{4, 7, 1}, nil},
		{"longer", open(), 0, 2, []int{1, 4}, []int{0, 3, 6, 7, 8, 5, 2}},
		{"around a wall", sketch(".#. ..."), 0, 2, nil, []int{0, 3, 4, 5, 2}},
		{"up", decks, 0, 6, nil, []int{0, 6}},
		{"down", decks, 6, 0, nil, []int{6, 0}},
		{"up twice", decks, 2, 14, nil, []int{2, 8, 14}},
		{"down twice", decks, 14, 2, nil, []int{14, 8, 2}},
		{"to the other lift", decks, 0, 14, nil, []int{0, 1, 2, 8, 14}},
		{"on the deck between", decks, 0, 14, []int{1, 4}, []int{0, 6, 7, 8, 14}},
		{"without a lift", decks, 14, 0, []int{8}, nil},
	} {
		expectList(t, c.about, Path(c.f, c.a, c.b, c.avoid), c.want...)
	}
}

// TestOfTheShortestWaysTheLeast has several shortest ways, whose directions differ from the first on, from a middle one on, or only in the last two.
func TestOfTheShortestWaysTheLeast(t *testing.T) {
	lifts := filled(2, 2, 2, api.CLift, 63)
	for _, c := range []struct {
		about string
		f     api.Floor
		a, b  int
		avoid []int
		want  []int
	}{
		{"east before south", open(), 0, 4, nil, []int{0, 1, 4}},
		{"east before north", open(), 6, 4, nil, []int{6, 7, 4}},
		{"south before west", open(), 2, 4, nil, []int{2, 5, 4}},
		{"west before north", open(), 8, 4, nil, []int{8, 7, 4}},
		{"not the least last direction", open(), 0, 8, nil, []int{0, 1, 2, 5, 8}},
		{"not the least cells", open(), 8, 0, nil, []int{8, 7, 6, 3, 0}},
		{"to the lower left", open(), 2, 6, nil, []int{2, 5, 8, 7, 6}},
		{"to the upper right", open(), 6, 2, nil, []int{6, 7, 8, 5, 2}},
		{"from the second on", open(), 0, 8, []int{2}, []int{0, 1, 4, 5, 8}},
		{"from the middle on", sketch("#### ...# ##.. ##.."), 4, 15, nil, []int{4, 5, 6, 10, 11, 15}},
		{"the last two", sketch("...## ##... ##..."), 0, 13, nil, []int{0, 1, 2, 7, 8, 13}},
		{"a middle one", sketch("....# .#..# .#..."), 0, 14, []int{8}, []int{0, 1, 2, 7, 12, 13, 14}},
		{"around a block", sketch("... .#. ..."), 0, 8, nil, []int{0, 1, 2, 5, 8}},
		{"back around a block", sketch("... .#. ..."), 8, 0, nil, []int{8, 7, 6, 3, 0}},
		{"east before up", lifts, 0, 5, nil, []int{0, 1, 5}},
		{"east before down", lifts, 4, 1, nil, []int{4, 5, 1}},
		{"south before up", lifts, 1, 7, nil, []int{1, 3, 7}},
		{"west before up", lifts, 3, 6, nil, []int{3, 2, 6}},
		{"north before up", lifts, 3, 5, nil, []int{3, 1, 5}},
		{"north before down", lifts, 7, 1, nil, []int{7, 5, 1}},
		{"all three, upwards", lifts, 0, 7, nil, []int{0, 1, 3, 7}},
		{"all three, downwards", lifts, 7, 0, nil, []int{7, 6, 4, 0}},
		{"all three, without the least", lifts, 0, 7, []int{3}, []int{0, 1, 5, 7}},
		{"up before down", sketch("L.L", "L#L", "L.L"), 3, 5, nil, []int{3, 6, 7, 8, 5}},
		{"up before down, backwards", sketch("L.L", "L#L", "L.L"), 5, 3, nil, []int{5, 8, 7, 6, 3}},
	} {
		expectList(t, c.about, Path(c.f, c.a, c.b, c.avoid), c.want...)
	}
}

// TestAShorterWayBeforeALess has a shortest way whose directions are greater than those of a longer way.
func TestAShorterWayBeforeALess(t *testing.T) {
	f := sketch("... ... ...")
	f.Out[2] = 1 << api.South
	f.Out[1] = 1 << api.East
	expectList(t, "Path", Path(f, 0, 7, nil), 0, 3, 4, 7)
	expectList(t, "Path", Path(f, 1, 3, nil), 1, 2, 5, 4, 3)
	expectList(t, "Path", Path(f, 4, 1, nil), 4, 1)
	expectList(t, "Path", Path(f, 3, 1, nil), 3, 4, 1)
	expectList(t, "Path", Path(f, 3, 1, []int{4}), 3, 0, 1)
}

func TestPathToItself(t *testing.T) {
	f := sketch(".#. ..C", "L.. L..")
	f.Out[2] = 0
	for c, kind := range f.Kind {
		if kind == api.CWall {
			expectList(t, "a wall", Path(f, c, c, nil))
			expectList(t, "a wall, avoided", Path(f, c, c, []int{c}))
			continue
		}
		expectList(t, "itself", Path(f, c, c, nil), c)
		expectList(t, "itself, all others avoided", Path(f, c, c, slices.DeleteFunc([]int{0, 1, 2, 3, 4, 5, 6, 7, 8, 9, 10, 11}, func(e int) bool { return e == c })), c)
		expectList(t, "avoided", Path(f, c, c, []int{c}))
		expectList(t, "avoided among others", Path(f, c, c, []int{-1, 1, c, c, 12}))
	}
	for _, c := range outside(12) {
		expectList(t, "no cell", Path(f, c, c, nil))
		expectList(t, "no cell, avoided", Path(f, c, c, []int{c}))
	}
	expectList(t, "a single cell", Path(filled(1, 1, 1, api.CExit, 0), 0, 0, nil), 0)
	expectList(t, "a single wall", Path(filled(1, 1, 1, api.CWall, 0), 0, 0, nil))
}

func TestNoPath(t *testing.T) {
	f := sketch("..#. ..#. ..##")
	for _, c := range []struct {
		about string
		a, b  int
		avoid []int
	}{
		{"to a wall", 0, 2, nil}, {"from a wall", 2, 0, nil}, {"from a wall to a wall", 2, 6, nil}, {"to a wall beside", 1, 2, nil},
		{"behind walls", 0, 3, nil}, {"from behind walls", 7, 8, nil},
		{"to what is avoided", 0, 1, []int{1}}, {"from what is avoided", 0, 1, []int{0}}, {"both avoided", 0, 1, []int{1, 0}},
		{"behind what is avoided", 0, 8, []int{4, 5}}, {"behind what is avoided several times", 0, 8, []int{5, 4, 4, 5}},
		{"from one row to the next", 3, 4, nil},
	} {
		expectList(t, c.about, Path(f, c.a, c.b, c.avoid))
	}
	for _, n := range outside(12) {
		for _, c := range []int{0, 2, 11} {
			expectList(t, "to no cell", Path(f, c, n, nil))
			expectList(t, "from no cell", Path(f, n, c, nil))
		}
		for _, m := range outside(12) {
			expectList(t, "no cells", Path(f, n, m, nil))
		}
	}
	f.Out[0] = 0
	expectList(t, "cannot be left", Path(f, 0, 1, nil))
	expectList(t, "cannot be left", Path(f, 1, 0, nil), 1, 0)
	f.Out[1] = 63 - 1<<api.West
	f.Out[4] = 63 - 1<<api.North
	expectList(t, "cannot be entered", Path(f, 1, 0, nil))
	expectList(t, "cannot be entered", Dist(f, []int{1, 9}, nil), -1, 0, -1, -1, 2, 1, -1, -1, 1, 0, -1, -1)
}

// P7.4, P7.5: the greatest floors.

// snake returns a deck of 64 rows of 64 cells with a single way through all of them: the cells in its order.
func snake() (api.Floor, []int) {
	f := filled(64, 64, 1, api.CFree, 0)
	var way []int
	for y := range 64 {
		for i := range 64 {
			x, d := i, api.East
			if y%2 == 1 {
				x, d = 63-i, api.West
			}
			if i == 63 {
				d = api.South
			}
			way = append(way, y*64+x)
			f.Out[y*64+x] = 1 << d
		}
	}
	return f, way
}

func TestSnake(t *testing.T) {
	f, way := snake()
	dist := Dist(f, []int{0}, nil)
	for i, c := range way {
		if dist[c] != i {
			t.Fatal(c, dist[c], i)
		}
	}
	last := way[4095]
	expectList(t, "snake", Path(f, 0, last, nil), way...)
	expectList(t, "back", Path(f, last, 0, nil))
	expectList(t, "part", Path(f, way[100], way[2000], nil), way[100:2001]...)
	expectList(t, "avoided", Path(f, 0, last, []int{way[4094]}))
	cut := Dist(f, []int{way[3000], 0}, []int{way[2000]})
	for i, c := range way {
		want := i
		if i >= 3000 {
			want = i - 3000
		} else if i >= 2000 {
			want = -1
		}
		if cut[c] != want {
			t.Fatal(c, cut[c], want)
		}
	}
}

func TestLongRows(t *testing.T) {
	var row []int
	for c := range 4096 {
		row = append(row, c)
	}
	for _, f := range []api.Floor{filled(4096, 1, 1, api.CFree, 63), filled(1, 4096, 1, api.CPort, 63)} {
		expectList(t, "Dist", Dist(f, []int{0}, nil), row...)
		expectList(t, "Path", Path(f, 0, 4095, nil), row...)
		expectList(t, "Dist from all", Dist(f, row, nil), make([]int, 4096)...)
		expectList(t, "Dist avoids all", Dist(f, row, row), slices.Repeat([]int{-1}, 4096)...)
		back := slices.Clone(row)
		slices.Reverse(back)
		expectList(t, "Dist", Dist(f, []int{4095}, nil), back...)
		expectList(t, "Path", Path(f, 4095, 0, nil), back...)
		expectList(t, "long lists", Dist(f, slices.Repeat([]int{0}, 100000), slices.Repeat([]int{-1, 4096}, 100000)), row...)
	}
}

func TestGreatestOpenFloors(t *testing.T) {
	for _, s := range [][3]int{{64, 64, 1}, {32, 32, 4}, {2, 512, 4}, {15, 91, 3}} {
		f := filled(s[0], s[1], s[2], api.CLift, 63)
		n := len(f.Kind)
		dist := Dist(f, []int{0}, nil)
		for c := range n {
			x, y, z := At(f, c)
			if dist[c] != x+y+z {
				t.Fatal(c, dist[c])
			}
		}
		expectList(t, "there", Path(f, 0, n-1, nil), along(f, 0, api.East, api.South, api.Up)...)
		expectList(t, "back", Path(f, n-1, 0, nil), along(f, n-1, api.West, api.North, api.Down)...)
	}
}

// along returns the cells from c on, as far as one gets in one direction after the other.
func along(f api.Floor, c int, directions ...int) []int {
	l := []int{c}
	for _, d := range directions {
		for n, ok := Next(f, c, d); ok; n, ok = Next(f, c, d) {
			c = n
			l = append(l, c)
		}
	}
	return l
}
