package region

import (
	"fmt"
	"math/rand"
	"slices"
	"testing"

	"taquin/api"
)

// P8.4: nothing that was passed in is changed, and nothing that was returned is kept.

// spare returns a list with memory behind its end, which nobody may read or write. The elements there would continue a region.
func spare(l []int) []int {
	last := -1
	if len(l) > 0 {
		last = l[len(l)-1]
	}
	return append(slices.Clone(l), last+1, last+2, last+3, last+4)[:len(l)]
}

// scenes calls check with several floors, each with two regions and a list of cells.
func scenes(check func(f api.Floor, a, b, from []int)) {
	check(sketch("... ... ..."), upTo(0, 8), []int{1, 2, 5}, []int{4, 4, -1})
	check(sketch("..", "LL"), []int{}, nil, []int{})
	check(sketch("L.L .#.", "L.L ..."), []int{0, 2, 4, 6, 9}, []int{0, 2, 4, 6, 9}, []int{9, 0})
	check(ring(), upTo(0, 8), []int{0, 4095}, []int{5, 5})
	check(filled(5, 1, 1, api.CFree, east), upTo(0, 4), upTo(1, 7), []int{1})
	check(filled(64, 64, 1, api.CPort, 63), upTo(0, 4095), upTo(100, 200), []int{0, 4095})
	rnd := rand.New(rand.NewSource(7))
	for range 50 {
		f, r, from := draw(rnd.Intn)
		check(f, r, having(func(int) bool { return rnd.Intn(100) == 0 }), from)
	}
}

// results calls all functions that return lists, and returns these lists.
func results(f api.Floor, a, b, from []int) [][]int {
	l := [][]int{Of(a), Of(from), Union(a, b), Inter(a, b), Diff(a, b), Union(a, nil), Inter(a, a), Diff(b, nil), Edge(f, a), Edge(f, b), Inside(f, a, from), Inside(f, b, a)}
	return slices.Concat(l, Parts(f, a), Parts(f, b))
}

// callAll calls all functions, and writes down what they return.
func callAll(f api.Floor, a, b, from []int) string {
	return fmt.Sprint(results(f, a, b, from), Right(a), Right(b), Right(from), Has(a, 9), Has(b, 4), Within(a, b), Within(b, a), Same(a, b), Same(a, a), Linked(f, a), Linked(f, b))
}

func TestNothingIsChanged(t *testing.T) {
	scenes(func(f api.Floor, a, b, from []int) {
		passed := [][]int{f.Kind, f.Out, a, b, from}
		var copies, whole [][]int
		for _, l := range passed {
			copies = append(copies, spare(l))
			whole = append(whole, slices.Clone(spare(l)[:len(l)+4]))
		}
		g := f
		g.Kind, g.Out = copies[0], copies[1]
		callAll(g, copies[2], copies[3], copies[4])
		if g.W != f.W || g.H != f.H || g.D != f.D {
			t.Error("size", g.W, g.H, g.D)
		}
		for i, l := range copies {
			expectList(t, "changed", l[:len(l)+4], whole[i]...)
		}
	})
}

func TestNothingBeyondTheLengthIsRead(t *testing.T) {
	scenes(func(f api.Floor, a, b, from []int) {
		g := f
		g.Kind, g.Out = spare(f.Kind), spare(f.Out)
		got := callAll(g, spare(a), spare(b), spare(from))
		if got != callAll(f, slices.Clip(a), slices.Clip(b), slices.Clip(from)) {
			t.Error(describe(f), brief(a), brief(b), from)
		}
	})
}

func TestTheSameAgain(t *testing.T) {
	var before []string
	scenes(func(f api.Floor, a, b, from []int) {
		before = append(before, callAll(f, a, b, from))
	})
	scenes(func(f api.Floor, a, b, from []int) {
		if callAll(f, a, b, from) != before[0] {
			t.Error(describe(f), brief(a), brief(b), from)
		}
		before = before[1:]
	})
}

// spoil changes all elements of a list, also those behind its end.
func spoil(l []int) {
	l = l[:cap(l)]
	for i := range l {
		l[i] = -7
	}
}

func TestResultsAreFresh(t *testing.T) {
	scenes(func(f api.Floor, a, b, from []int) {
		passed := [][]int{f.Kind, f.Out, a, b, from}
		var before [][]int
		for _, l := range passed {
			before = append(before, slices.Clone(l))
		}
		got := append(results(f, a, b, from), results(f, a, b, from)...)
		var want [][]int
		for _, l := range got {
			want = append(want, slices.Clone(l))
		}
		for i, l := range got {
			expectList(t, "after other results were changed, and other calls made", l, want[i]...)
			spoil(l)
		}
		for i, l := range passed {
			expectList(t, "passed in", l, before[i]...)
		}
		for i, l := range results(f, a, b, from) {
			expectList(t, "after results were changed", l, want[i]...)
		}
	})
}

func TestNothingIsKept(t *testing.T) {
	scenes(func(f api.Floor, a, b, from []int) {
		g := f
		g.Kind, g.Out = slices.Clone(f.Kind), slices.Clone(f.Out)
		c, d, e := slices.Clone(a), slices.Clone(b), slices.Clone(from)
		got, want := results(g, c, d, e), results(f, a, b, from)
		for _, l := range [][]int{g.Kind, g.Out, c, d, e} {
			spoil(l)
		}
		for i, l := range got {
			expectList(t, "after what was passed in was changed", l, want[i]...)
		}
		for i, l := range results(f, a, b, from) {
			expectList(t, "again", l, want[i]...)
		}
	})
}
