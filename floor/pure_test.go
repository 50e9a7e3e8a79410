package floor

import (
	"math/rand"
	"slices"
	"strconv"
	"testing"

	"taquin/api"
)

// P7.6: nothing that was passed in is changed, and nothing that was returned is kept.

// spare returns a list with memory behind its end: the elements there are numbers of cells, and none of them may be read or written.
func spare(l []int) []int {
	return append(slices.Clone(l), 2, 2, 2, 2)[:len(l)]
}

// callAll calls all functions, and writes down what they return.
func callAll(f api.Floor, from, avoid []int) string {
	s := strconv.FormatBool(Right(f)) + "\n"
	add := func(l ...int) {
		for _, n := range l {
			s += strconv.Itoa(n) + " "
		}
		s += "\n"
	}
	for c := -1; c <= len(f.Kind); c++ {
		x, y, z := At(f, c)
		add(x, y, z, Cell(f, x, y, z), Cell(f, x+1, y, z))
		for d := -1; d <= 6; d++ {
			n, ok := Next(f, c, d)
			p, led := Back(f, c, d)
			add(n, p, Opposite(d))
			s += strconv.FormatBool(ok) + strconv.FormatBool(led) + strconv.FormatBool(Near(f, c, n))
		}
		add(Path(f, 0, c, avoid)...)
		add(Path(f, c, 0, avoid)...)
	}
	add(Dist(f, from, avoid)...)
	add(Dist(f, avoid, from)...)
	return s
}

// scenes calls check with several floors and lists.
func scenes(check func(f api.Floor, from, avoid []int)) {
	check(example(), []int{0, 2}, []int{4})
	check(oneway(), []int{5, 5, 9, -1}, nil)
	check(sketch("L.L .#.", "LPL CWE"), []int{1, 1}, []int{3, 4, 3, 12, -7})
	check(filled(1, 1, 1, api.CFree, 0), []int{}, []int{})
	rnd := rand.New(rand.NewSource(6))
	for range 50 {
		f, from, avoid, _, _ := draw(rnd.Intn)
		check(f, from, avoid)
	}
}

func TestNothingIsChanged(t *testing.T) {
	scenes(func(f api.Floor, from, avoid []int) {
		g := f
		g.Kind, g.Out = spare(f.Kind), spare(f.Out)
		starts, closed := spare(from), spare(avoid)
		callAll(g, starts, closed)
		if g.W != f.W || g.H != f.H || g.D != f.D {
			t.Error("size", g.W, g.H, g.D)
		}
		for _, l := range [][2][]int{{g.Kind, f.Kind}, {g.Out, f.Out}, {starts, from}, {closed, avoid}} {
			expectList(t, "changed", l[0], l[1]...)
			expectList(t, "changed beyond the length", l[0][len(l[0]):len(l[0])+4], 2, 2, 2, 2)
		}
	})
}

func TestNothingBeyondTheLengthIsRead(t *testing.T) {
	scenes(func(f api.Floor, from, avoid []int) {
		g := f
		g.Kind, g.Out = spare(f.Kind), spare(f.Out)
		if got := callAll(g, spare(from), spare(avoid)); got != callAll(f, slices.Clip(from), slices.Clip(avoid)) {
			t.Error(describe(f), from, avoid, got)
		}
	})
}

func TestTheSameAgain(t *testing.T) {
	var before []string
	scenes(func(f api.Floor, from, avoid []int) {
		before = append(before, callAll(f, from, avoid))
	})
	scenes(func(f api.Floor, from, avoid []int) {
		if got := callAll(f, from, avoid); got != before[0] {
			t.Error(describe(f), from, avoid, got)
		}
		before = before[1:]
	})
}

// spoil changes all elements of a list, also those behind its end.
func spoil(l []int) {
	l = l[:cap(l)]
	for i := range l {
		l[i] = 1
	}
}

func TestResultsAreFresh(t *testing.T) {
	scenes(func(f api.Floor, from, avoid []int) {
		g := cloned(f)
		starts, closed := slices.Clone(from), slices.Clone(avoid)
		n := len(f.Kind)
		calls := []func() []int{
			func() []int { return Dist(g, starts, closed) },
			func() []int { return Dist(g, starts, closed) },
			func() []int { return Dist(g, nil, nil) },
			func() []int { return Path(g, 0, n-1, nil) },
			func() []int { return Path(g, 0, n-1, nil) },
			func() []int { return Path(g, n-1, n-1, closed) },
			func() []int { return Path(g, 0, -1, nil) },
			func() []int { return Dist(g, closed, starts) },
		}
		var got, want [][]int
		for _, call := range calls {
			l := call()
			got = append(got, l)
			want = append(want, slices.Clone(l))
		}
		for i := range got {
			expectList(t, "after other results were changed, and other calls made", got[i], want[i]...)
			spoil(got[i])
		}
		for i, call := range calls {
			expectList(t, "after a result was changed", call(), want[i]...)
		}
		for _, l := range [][2][]int{{g.Kind, f.Kind}, {g.Out, f.Out}, {starts, from}, {closed, avoid}} {
			expectList(t, "passed in", l[0], l[1]...)
		}
	})
}

func TestNothingIsKept(t *testing.T) {
	scenes(func(f api.Floor, from, avoid []int) {
		g := cloned(f)
		starts, closed := slices.Clone(from), slices.Clone(avoid)
		n := len(f.Kind)
		dist, path := Dist(g, starts, closed), Path(g, 0, n-1, closed)
		wantDist, wantPath := slices.Clone(dist), slices.Clone(path)
		for _, l := range [][]int{g.Kind, g.Out, starts, closed} {
			spoil(l)
		}
		expectList(t, "Dist", dist, wantDist...)
		expectList(t, "Path", path, wantPath...)
		expectList(t, "Dist again", Dist(f, from, avoid), wantDist...)
		if got, want := callAll(g, starts, closed), callAll(cloned(g), slices.Clone(starts), slices.Clone(closed)); got != want {
			t.Error("changed lists", got, want)
		}
	})
}
