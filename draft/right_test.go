package draft

import (
	"math"
	"slices"
	"strings"
	"testing"

	"taquin/api"
	"taquin/lex"
)

// P10.2: Right, and Print, which returns nothing for what is not right.

func expectRight(t *testing.T, d api.Draft, want bool) {
	t.Helper()
	if got := Right(d); got != want {
		t.Errorf("%s: %t", brief(whole(d)), got)
	}
	text := Print(d)
	if empty := len(d.Decks)+len(d.Items) == 0; (text == "") == (want && !empty) {
		t.Errorf("%s: %s", brief(whole(d)), brief(text))
	}
}

// expectRightItem checks drafts with this item alone, and among others, whatever the Lines.
func expectRightItem(t *testing.T, item api.Item, want bool) {
	t.Helper()
	zone, shelf := aZone(1, "a", 0, 0, 0, 0, 0, 1, 0), aShelf(2, "", 0, 0, 0)
	expectRight(t, api.Draft{Items: []api.Item{item}}, want)
	for _, line := range []int{0, 1, -1, math.MaxInt, math.MinInt} {
		item.Line = line
		expectRight(t, api.Draft{Decks: [][]string{{"a"}}, Items: []api.Item{zone, item, shelf}}, want)
		expectRight(t, api.Draft{Items: []api.Item{item, zone}}, want)
		expectRight(t, api.Draft{Items: []api.Item{shelf, item}}, want)
	}
}

// rightItems returns right items of each Kind.
func rightItems() []api.Item {
	var items []api.Item
	for _, l := range itemLines() {
		items = append(items, l.item)
	}
	return items
}

func TestRightItems(t *testing.T) {
	for _, item := range rightItems() {
		expectRightItem(t, item, true)
	}
	expectRightItem(t, api.Item{Kind: api.ItApart, Name: "a", Other: "b", N: []int{}}, true)
}

func TestTooFewAndTooManyNumbers(t *testing.T) {
	counts := map[int]int{api.ItZone: 7, api.ItShift: 2, api.ItOneway: 4, api.ItApart: 0, api.ItShelf: 3, api.ItRobot: 4}
	for _, item := range rightItems() {
		for n := range 12 {
			item.N = slices.Repeat([]int{1}, n)
			expectRightItem(t, item, n == counts[item.Kind])
		}
		item.N = make([]int, 5000)
		expectRightItem(t, item, false)
		item.N = nil
		expectRightItem(t, item, item.Kind == api.ItApart)
		item.N = []int{}
		expectRightItem(t, item, item.Kind == api.ItApart)
	}
}

func TestEachNumberOfAnItem(t *testing.T) {
	for _, item := range rightItems() {
		n := item.N
		for i := range n {
			item.N = slices.Clone(n)
			for _, m := range []int{-1, -2, -7, math.MinInt, math.MinInt + 1, -1 << 32} {
				item.N[i] = m
				expectRightItem(t, item, false)
			}
			for _, m := range []int{0, 1, 5, 6, 7, 63, 64, 4096, 20001, 1 << 32, math.MaxInt - 1, math.MaxInt} {
				item.N[i] = m
				expectRightItem(t, item, m < 6 || item.Kind != api.ItOneway || i != 3)
			}
		}
	}
	for d := -20; d < 70; d++ {
		expectRightItem(t, aOneway(1, 0, 0, 0, d), 0 <= d && d < 6)
	}
}

// noWords are strings that are no words; but for the empty one.
func noWords() []string {
	return []string{
		"0", "7", "1a", "-", "-a", "-1", " ", " a", "a ", "a b", "a\n", "\n", "a\nb", "\ta", "a\r", "#", "a#", "#a", `"`, `"a"`, "a.b", "a/b", "é", "\x00", "a\x00", "\xff",
		strings.Repeat("a", 21), strings.Repeat("_", 21), strings.Repeat("a", 5000),
	}
}

// manyWords are words.
func manyWords() []string {
	return append(allWords(), "a", "Z", "_", "a-", "a-1_B", "__", "x0", strings.Repeat("a", 20), "a"+strings.Repeat("-", 19))
}

func TestNamesOfItems(t *testing.T) {
	for _, item := range rightItems() {
		named := item.Kind == api.ItZone || item.Kind == api.ItShift || item.Kind == api.ItApart
		item.Name = ""
		expectRightItem(t, item, !named)
		for _, s := range manyWords() {
			item.Name = s
			expectRightItem(t, item, named || item.Kind == api.ItShelf)
		}
		for _, s := range noWords() {
			item.Name = s
			expectRightItem(t, item, false)
		}
	}
}

func TestOthersOfItems(t *testing.T) {
	for _, item := range rightItems() {
		item.Other = ""
		expectRightItem(t, item, item.Kind != api.ItApart)
		for _, s := range manyWords() {
			item.Other = s
			expectRightItem(t, item, item.Kind == api.ItApart)
		}
		for _, s := range noWords() {
			item.Other = s
			expectRightItem(t, item, false)
		}
	}
	for _, c := range []struct {
		item api.Item
		want bool
	}{
		{anApart(1, "a", "a"), true}, {anApart(1, "", "a"), false}, {anApart(1, "a", ""), false}, {anApart(1, "", ""), false}, {anApart(1, "1", "a"), false}, {anApart(1, "a", "1"), false}, {anApart(1, "1", "1"), false},
		{api.Item{Kind: api.ItShelf, Other: "a", N: []int{0, 0, 0}}, false}, {api.Item{Kind: api.ItShelf, Name: "a", Other: "a", N: []int{0, 0, 0}}, false},
	} {
		expectRightItem(t, c.item, c.want)
	}
}

func TestEachByteInAName(t *testing.T) {
	for b := range 256 {
		for _, s := range []string{one(b), "a" + one(b), "a" + one(b) + "b"} {
			want := lex.Word(s)
			expectRightItem(t, aShift(1, s, 0, 0), want)
			expectRightItem(t, aShelf(1, s, 0, 0, 0), want)
			expectRightItem(t, anApart(1, s, "a"), want)
			expectRightItem(t, anApart(1, "a", s), want)
			expectRightItem(t, aRobot(1, 0, 0, 0, 0), true)
			expectRightItem(t, api.Item{Kind: api.ItRobot, Name: s, N: []int{0, 0, 0, 0}}, false)
			expectRightItem(t, api.Item{Kind: api.ItRobot, Other: s, N: []int{0, 0, 0, 0}}, false)
		}
	}
}

func TestKindsThatDoNotExist(t *testing.T) {
	for _, kind := range []int{-1, -2, api.ItKinds, 7, 8, 100, 256, 261, 1 << 32, 1<<32 + 1, math.MaxInt, math.MinInt, math.MinInt + 1} {
		expectRightItem(t, api.Item{Kind: kind}, false)
		for _, item := range rightItems() {
			item.Kind = kind
			expectRightItem(t, item, false)
		}
	}
	for kind := range api.ItKinds { // an item of another Kind
		for _, item := range rightItems() {
			alike := item.Kind == kind || item.Kind == api.ItShelf && item.Name == "" && len(item.N) == 4
			four := (item.Kind == api.ItOneway || item.Kind == api.ItRobot) && (kind == api.ItRobot || kind == api.ItOneway && item.N[3] < 6)
			item.Kind = kind
			expectRightItem(t, item, alike || four)
		}
	}
}

func TestDecksOfDrafts(t *testing.T) {
	for n := range 8 {
		expectRight(t, api.Draft{Decks: make([][]string, n)}, n <= 4)
		expectRight(t, api.Draft{Decks: slices.Repeat([][]string{{"a", ""}}, n), Items: rightItems()}, n <= 4)
	}
	expectRight(t, api.Draft{Decks: make([][]string, 100000)}, false)
	expectRight(t, api.Draft{}, true)
	expectRight(t, api.Draft{Decks: [][]string{}, Items: []api.Item{}}, true)
	expectRight(t, api.Draft{Decks: [][]string{{}, nil}}, true)
}

func TestRowsOfDrafts(t *testing.T) {
	for _, n := range []int{0, 1, 2048, 2049, 4095, 4096, 4097, 4098, 10000} {
		for _, row := range []string{"", "#.P", "\n"} {
			rows, want := slices.Repeat([]string{row}, n), n <= 4096
			expectRight(t, api.Draft{Decks: [][]string{rows}}, want)
			expectRight(t, api.Draft{Decks: [][]string{{row}, nil, rows}}, want)
			expectRight(t, api.Draft{Decks: [][]string{rows, {row}}}, want)
			expectRight(t, api.Draft{Decks: [][]string{rows, rows, rows, rows}}, want)
		}
		row, want := strings.Repeat("a", n), n <= 4096
		expectRight(t, api.Draft{Decks: [][]string{{row}}}, want)
		expectRight(t, api.Draft{Decks: [][]string{{"", row}, {""}}}, want)
		expectRight(t, api.Draft{Decks: [][]string{nil, {"a"}, nil, {row, "b"}}}, want)
		expectRight(t, api.Draft{Decks: [][]string{{strings.Repeat("\x00", n)}}}, want)
		expectRight(t, api.Draft{Decks: [][]string{{strings.Repeat("é", n)}}}, 2*n <= 4096)
	}
	all := ""
	for b := range 256 {
		all += one(b)
	}
	expectRight(t, api.Draft{Decks: [][]string{{all, strings.Repeat(all, 16)}}}, true)
	expectRight(t, api.Draft{Decks: [][]string{{strings.Repeat(all, 16) + "a"}}}, false)
}

func TestNumbersOfItems(t *testing.T) {
	for _, n := range []int{0, 1, 4999, 5000, 5001, 5002, 20000} {
		for _, item := range rightItems() {
			expectRight(t, api.Draft{Items: slices.Repeat([]api.Item{item}, n)}, n <= 5000)
		}
		expectRight(t, api.Draft{Decks: [][]string{{"a"}}, Items: slices.Repeat(rightItems(), n/len(rightItems())+1)[:n]}, n <= 5000)
	}
	for _, i := range []int{0, 1, 2500, 4998, 4999} { // one of many is not right
		items := slices.Repeat(rightItems(), 300)[:5000]
		items[i].N = []int{-1}
		expectRight(t, api.Draft{Items: items}, false)
	}
}

func TestDraftsWithTwoFaults(t *testing.T) {
	bad := aRobot(1, 0, 0, 0, -1)
	expectRight(t, api.Draft{Decks: make([][]string, 5), Items: []api.Item{bad}}, false)
	expectRight(t, api.Draft{Decks: [][]string{{strings.Repeat("a", 4097)}}, Items: []api.Item{bad}}, false)
	expectRight(t, api.Draft{Decks: make([][]string, 4), Items: []api.Item{bad}}, false)
	expectRight(t, api.Draft{Decks: make([][]string, 5), Items: rightItems()}, false)
	expectRight(t, api.Draft{Items: slices.Repeat([]api.Item{bad}, 5001)}, false)
	expectRight(t, api.Draft{Decks: [][]string{make([]string, 4097)}, Items: make([]api.Item, 5001)}, false)
}
