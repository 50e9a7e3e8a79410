package region

import (
	"math/rand"
	"slices"
	"testing"
)

// expectSets checks what Union, Inter, Diff, Within and Same say of two regions.
func expectSets(t *testing.T, a, b, union, inter, diff []int) {
	t.Helper()
	for _, r := range []struct {
		about     string
		got, want []int
	}{
		{"Union", Union(a, b), union}, {"Inter", Inter(a, b), inter}, {"Diff", Diff(a, b), diff},
	} {
		if !slices.Equal(r.got, r.want) {
			t.Errorf("%s of %s and %s: %s instead of %s", r.about, brief(a), brief(b), brief(r.got), brief(r.want))
		}
	}
	if got := Within(a, b); got != (len(diff) == 0) {
		t.Errorf("Within of %s and %s: %t", brief(a), brief(b), got)
	}
	if got := Same(a, b); got != (len(diff) == 0 && len(union) == len(a)) {
		t.Errorf("Same of %s and %s: %t", brief(a), brief(b), got)
	}
}

// P8.1: Union, Inter and Diff, and with them Within and Same.

func TestUnionInterAndDiff(t *testing.T) {
	for _, c := range []struct {
		a, b, union, inter, onlyA, onlyB []int
	}{
		{nil, nil, nil, nil, nil, nil},
		{[]int{}, nil, nil, nil, nil, nil},
		{[]int{}, []int{}, nil, nil, nil, nil},
		{[]int{3}, nil, []int{3}, nil, []int{3}, nil},
		{[]int{0, 4095}, []int{}, []int{0, 4095}, nil, []int{0, 4095}, nil},
		{[]int{7}, []int{7}, []int{7}, []int{7}, nil, nil},
		{[]int{0, 5, 4095}, []int{0, 5, 4095}, []int{0, 5, 4095}, []int{0, 5, 4095}, nil, nil},
		{[]int{1, 2, 3}, []int{1}, []int{1, 2, 3}, []int{1}, []int{2, 3}, nil},
		{[]int{1, 2, 3}, []int{2}, []int{1, 2, 3}, []int{2}, []int{1, 3}, nil},
		{[]int{1, 2, 3}, []int{3}, []int{1, 2, 3}, []int{3}, []int{1, 2}, nil},
		{[]int{1, 2, 3}, []int{1, 3}, []int{1, 2, 3}, []int{1, 3}, []int{2}, nil},
		{[]int{0, 1}, []int{2, 3}, []int{0, 1, 2, 3}, nil, []int{0, 1}, []int{2, 3}},
		{[]int{0}, []int{4095}, []int{0, 4095}, nil, []int{0}, []int{4095}},
		{[]int{0, 9}, []int{4, 5}, []int{0, 4, 5, 9}, nil, []int{0, 9}, []int{4, 5}},
		{[]int{0, 2, 4}, []int{1, 3, 5}, []int{0, 1, 2, 3, 4, 5}, nil, []int{0, 2, 4}, []int{1, 3, 5}},
		{[]int{0, 2, 4, 6}, []int{1, 2, 5, 6}, []int{0, 1, 2, 4, 5, 6}, []int{2, 6}, []int{0, 4}, []int{1, 5}},
		{[]int{0, 1, 2}, []int{1, 2, 3}, []int{0, 1, 2, 3}, []int{1, 2}, []int{0}, []int{3}},
		{[]int{0, 3, 6}, []int{0, 4, 6}, []int{0, 3, 4, 6}, []int{0, 6}, []int{3}, []int{4}},
		{upTo(0, 4095), []int{0, 4095}, upTo(0, 4095), []int{0, 4095}, upTo(1, 4094), nil},
		{upTo(0, 3000), upTo(2000, 4095), upTo(0, 4095), upTo(2000, 3000), upTo(0, 1999), upTo(3001, 4095)},
		{upTo(0, 4095), upTo(0, 4095), upTo(0, 4095), upTo(0, 4095), nil, nil},
	} {
		expectSets(t, c.a, c.b, c.union, c.inter, c.onlyA)
		expectSets(t, c.b, c.a, c.union, c.inter, c.onlyB)
	}
}

// choices returns all lists of some of the elements of l, in order.
func choices(l []int) [][]int {
	all := [][]int{nil}
	for _, e := range l {
		for _, r := range all {
			all = append(all, append(slices.Clone(r), e))
		}
	}
	return all
}

// having returns the numbers of cells for which has is true.
func having(has func(c int) bool) []int {
	var l []int
	for c := range 4096 {
		if has(c) {
			l = append(l, c)
		}
	}
	return l
}

// expectAsSets compares functions of two regions with what sets have.
func expectAsSets(t *testing.T, a, b []int) {
	t.Helper()
	inA, inB := make([]bool, 4096), make([]bool, 4096)
	for _, c := range a {
		inA[c] = true
	}
	for _, c := range b {
		inB[c] = true
	}
	expectSets(t, a, b,
		having(func(c int) bool { return inA[c] || inB[c] }),
		having(func(c int) bool { return inA[c] && inB[c] }),
		having(func(c int) bool { return inA[c] && !inB[c] }))
}

func TestAllPairsOfSmallRegions(t *testing.T) {
	all := choices([]int{0, 1, 2, 2047, 4094, 4095})
	for _, a := range all {
		for _, b := range all {
			expectAsSets(t, a, b)
		}
	}
}

// randomRegion returns a region: of each n numbers of cells it has about one.
func randomRegion(rnd *rand.Rand, n int) []int {
	return having(func(int) bool { return rnd.Intn(n) == 0 })
}

func TestPairsOfLargeRegions(t *testing.T) {
	rnd := rand.New(rand.NewSource(1))
	for i := range 200 {
		a, b := randomRegion(rnd, 1+i%7), randomRegion(rnd, 1+i%5)
		expectAsSets(t, a, b)
		expectAsSets(t, a, slices.Delete(slices.Clone(a), len(a)/2, len(a)/2+1))
		expectAsSets(t, a[len(a)/3:], a[:len(a)/2])
	}
}

// P8.1: Has.

func TestHas(t *testing.T) {
	for _, c := range append(noNumbers(), 0, 1, 2047, 4095) {
		expectBool(t, "nil", Has(nil, c), false)
		expectBool(t, "empty", Has([]int{}, c), false)
		expectBool(t, "all", Has(upTo(0, 4095), c), 0 <= c && c < 4096)
	}
	for _, r := range [][]int{{0}, {4095}, {3}, {0, 4095}, {3, 4}, {3, 5, 4094}, {1, 2, 3, 5, 8, 13, 21}, {0, 1, 2, 3, 4, 5, 6, 7}} {
		for _, c := range slices.Concat(noNumbers(), upTo(0, 4095)) {
			if Has(r, c) != slices.Contains(r, c) {
				t.Error(r, c)
			}
		}
	}
	beyond := append([]int{3, 5}, 7, 9)[:2]
	expectBool(t, "beyond the length", Has(beyond, 7), false)
}

// P8.1: Within and Same.

func TestWithinAndSame(t *testing.T) {
	for _, c := range []struct {
		a, b         []int
		within, same bool
	}{
		{nil, nil, true, true}, {nil, []int{}, true, true}, {[]int{}, nil, true, true}, {[]int{}, []int{}, true, true},
		{nil, []int{0}, true, false}, {[]int{}, []int{4095}, true, false}, {[]int{0}, nil, false, false}, {[]int{4095}, []int{}, false, false},
		{[]int{0}, []int{0}, true, true}, {[]int{0}, []int{1}, false, false}, {[]int{1}, []int{0}, false, false},
		{[]int{1, 2}, []int{1, 2, 3}, true, false}, {[]int{2, 3}, []int{1, 2, 3}, true, false}, {[]int{1, 3}, []int{1, 2, 3}, true, false},
		{[]int{1, 2, 3}, []int{1, 2}, false, false}, {[]int{1, 2, 3}, []int{2, 3}, false, false}, {[]int{1, 2, 3}, []int{1, 3}, false, false},
		{[]int{1, 2, 3}, []int{1, 2, 4}, false, false}, {[]int{0, 2, 3}, []int{1, 2, 3}, false, false}, {[]int{1, 4}, []int{0, 1, 2, 3, 5}, false, false},
		{[]int{0, 4095}, []int{0, 4095}, true, true}, {upTo(0, 4095), upTo(0, 4095), true, true}, {upTo(0, 4094), upTo(0, 4095), true, false}, {upTo(0, 4095), upTo(1, 4095), false, false},
	} {
		if Within(c.a, c.b) != c.within || Same(c.a, c.b) != c.same || Same(c.b, c.a) != c.same {
			t.Error(brief(c.a), brief(c.b), Within(c.a, c.b), Same(c.a, c.b), Same(c.b, c.a))
		}
	}
}

// P8.5: regions behave like sets.

// expectLaws checks the laws of sets for three regions and the one that all are within.
func expectLaws(t *testing.T, a, b, c, all []int) {
	t.Helper()
	for i, law := range [][2][]int{
		{Union(a, b), Union(b, a)},
		{Inter(a, b), Inter(b, a)},
		{Union(a, Union(b, c)), Union(Union(a, b), c)},
		{Inter(a, Inter(b, c)), Inter(Inter(a, b), c)},
		{Union(a, Inter(b, c)), Inter(Union(a, b), Union(a, c))},
		{Inter(a, Union(b, c)), Union(Inter(a, b), Inter(a, c))},
		{Union(a, Inter(a, b)), a},
		{Inter(a, Union(a, b)), a},
		{Union(a, a), a},
		{Inter(a, a), a},
		{Diff(a, a), nil},
		{Union(a, nil), a},
		{Inter(a, nil), nil},
		{Diff(a, nil), a},
		{Diff(nil, a), nil},
		{Union(a, all), all},
		{Inter(a, all), a},
		{Diff(a, all), nil},
		{Diff(all, Diff(all, a)), a},
		{Diff(all, Union(a, b)), Inter(Diff(all, a), Diff(all, b))},
		{Diff(all, Inter(a, b)), Union(Diff(all, a), Diff(all, b))},
		{Diff(a, b), Inter(a, Diff(all, b))},
		{Diff(a, Union(b, c)), Diff(Diff(a, b), c)},
		{Diff(a, Diff(b, c)), Union(Diff(a, b), Inter(a, c))},
		{Union(Diff(a, b), Inter(a, b)), a},
		{Inter(Diff(a, b), b), nil},
		{Union(Diff(a, b), b), Union(a, b)},
	} {
		if !Same(law[0], law[1]) || !Right(law[0]) {
			t.Fatal("law", i, brief(a), brief(b), brief(c), brief(law))
		}
	}
	if Within(a, b) != Same(Union(a, b), b) || Within(a, b) != Same(Inter(a, b), a) || Same(a, b) != (Within(a, b) && Within(b, a)) || Within(a, b) && Within(b, c) && !Within(a, c) {
		t.Fatal("Within", brief(a), brief(b), brief(c))
	}
}

func TestLawsOfSmallRegions(t *testing.T) {
	numbers := []int{0, 1, 4094, 4095}
	all := choices(numbers)
	for _, a := range all {
		for _, b := range all {
			for _, c := range all {
				expectLaws(t, a, b, c, numbers)
			}
		}
	}
}

func TestLawsOfLargeRegions(t *testing.T) {
	rnd := rand.New(rand.NewSource(2))
	for range 100 {
		a, b, c := randomRegion(rnd, 1+rnd.Intn(6)), randomRegion(rnd, 1+rnd.Intn(6)), randomRegion(rnd, 1+rnd.Intn(6))
		expectLaws(t, a, b, c, upTo(0, 4095))
		expectLaws(t, a, Union(a, b), Inter(a, c), upTo(0, 4095))
		union, inter, diff := Union(a, b), Inter(a, b), Diff(a, b)
		for n := range 4096 {
			inA, inB := Has(a, n), Has(b, n)
			if Has(union, n) != (inA || inB) || Has(inter, n) != (inA && inB) || Has(diff, n) != (inA && !inB) {
				t.Fatal(n, inA, inB)
			}
		}
	}
}
