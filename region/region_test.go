package region

import (
	"fmt"
	"math"
	"slices"
	"testing"

	"taquin/api"
)

// brief writes a list, for messages, but not more than the beginning of a long one.
func brief(list any) string {
	s := fmt.Sprint(list)
	return s[:min(len(s), 300)]
}

func expectList(t *testing.T, about string, got []int, want ...int) {
	t.Helper()
	if !slices.Equal(got, want) {
		t.Errorf("%s: %s instead of %s", about, brief(got), brief(want))
	}
}

func expectBool(t *testing.T, about string, got, want bool) {
	t.Helper()
	if got != want {
		t.Errorf("%s: %t instead of %t", about, got, want)
	}
}

// upTo returns the numbers from low to high.
func upTo(low, high int) []int {
	l := []int{}
	for n := low; n <= high; n++ {
		l = append(l, n)
	}
	return l
}

// noNumbers are numbers that no region has. Some of them would be numbers of cells, if only some of their bits were looked at.
func noNumbers() []int {
	return []int{-1, 4096, -2, 4097, -4095, -4096, 8191, 1 << 31, 1 << 32, 1<<32 + 5, -1 << 32, 1 << 62, math.MaxInt, math.MaxInt - 1, math.MinInt, math.MinInt + 1}
}

// lists calls check with all lists of up to n elements of l.
func lists(l []int, n int, check func(list []int)) {
	var extend func(list []int)
	extend = func(list []int) {
		check(slices.Clone(list))
		if len(list) == n {
			return
		}
		for _, e := range l {
			extend(append(slices.Clone(list), e))
		}
	}
	extend(nil)
}

// The rows of the chapter's examples.

func TestExamples(t *testing.T) {
	f := api.Floor{W: 3, H: 1, D: 1, Kind: []int{api.CFree, api.CFree, api.CFree}, Out: []int{63, 1, 63}}
	expectBool(t, "Linked", Linked(f, []int{0, 1}), false)
	expectParts(t, "Parts", f, []int{0, 1, 2}, []int{0}, []int{1, 2})
	expectList(t, "Edge", Edge(f, []int{0, 1}), 1)
	expectList(t, "Inside", Inside(f, []int{0, 1, 2}, []int{2}), -1, 1, 0)
}

// P8.1: Right.

func TestRight(t *testing.T) {
	for _, r := range [][]int{nil, {}, {0}, {1}, {4095}, {4094, 4095}, {0, 1}, {0, 4095}, {0, 1, 2}, {5, 7, 100, 4094}, upTo(0, 4095), upTo(1, 4094), append([]int{0, 1}, -1, 1)[:2]} {
		if !Right(r) {
			t.Error("a region:", brief(r))
		}
	}
	for _, r := range [][]int{
		{0, 0}, {4095, 4095}, {1, 1, 2}, {1, 2, 2}, {0, 1, 0}, {7, 7, 7}, // repeat
		{1, 0}, {4095, 0}, {3, 2, 1}, {0, 2, 1}, {2, 1, 3}, {0, 1, 2, 4, 3}, // descend
		{-1}, {-1, 0}, {0, -1}, {-2, -1}, {4096}, {0, 4096}, {4095, 4096}, {4096, 4097}, {-1, 4096},
		upTo(-1, 4095), upTo(0, 4096), append(upTo(0, 4095), 4095),
	} {
		if Right(r) {
			t.Error("no region:", brief(r))
		}
	}
	for _, n := range noNumbers() {
		for _, r := range [][]int{{n}, {0, n}, {n, 4095}, {1, n, 3}} {
			if Right(r) {
				t.Error("no region:", brief(r))
			}
		}
	}
}

// isRegion is the definition of a region.
func isRegion(l []int) bool {
	for i, n := range l {
		if n < 0 || n > 4095 || i > 0 && l[i-1] >= n {
			return false
		}
	}
	return true
}

func TestRightOfShortLists(t *testing.T) {
	lists([]int{-1, 0, 1, 2, 4094, 4095, 4096}, 4, func(l []int) {
		if Right(l) != isRegion(l) {
			t.Error(l)
		}
	})
}

// P8.1: Of.

func TestOf(t *testing.T) {
	descending := upTo(-5000, 5000)
	slices.Reverse(descending)
	for _, c := range []struct {
		about   string
		l, want []int
	}{
		{"nil", nil, nil},
		{"empty", []int{}, nil},
		{"0", []int{0}, []int{0}},
		{"4095", []int{4095}, []int{4095}},
		{"a region", []int{3, 4, 7, 4095}, []int{3, 4, 7, 4095}},
		{"repeats", []int{5, 5, 1, 5, 1}, []int{1, 5}},
		{"descends", []int{9, 6, 3, 0}, []int{0, 3, 6, 9}},
		{"rises and falls", []int{2, 8, 4, 6, 0}, []int{0, 2, 4, 6, 8}},
		{"negative", []int{-1, -2, -4095}, nil},
		{"negative among others", []int{-1, 1, -2, 2}, []int{1, 2}},
		{"4096", []int{4096}, nil},
		{"4096 after 4095", []int{4095, 4096}, []int{4095}},
		{"4096 before 4095", []int{4096, 4095}, []int{4095}},
		{"around 0", []int{1, 0, -1}, []int{0, 1}},
		{"no numbers of cells", noNumbers(), nil},
		{"no numbers of cells among others", append(append([]int{7}, noNumbers()...), 0, 7, 4095), []int{0, 7, 4095}},
		{"all, descending", descending, upTo(0, 4095)},
		{"a long list", slices.Repeat([]int{4095, -1, 0}, 100000), []int{0, 4095}},
	} {
		expectList(t, c.about, Of(c.l), c.want...)
	}
}

func TestOfShortLists(t *testing.T) {
	lists([]int{-1, 0, 1, 2, 4094, 4095, 4096}, 4, func(l []int) {
		var want []int
		for n := range 4096 {
			if slices.Contains(l, n) {
				want = append(want, n)
			}
		}
		got := Of(l)
		expectList(t, "Of", got, want...)
		if !Right(got) {
			t.Error("no region:", l, got)
		}
	})
}
