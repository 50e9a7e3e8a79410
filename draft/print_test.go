package draft

import (
	"slices"
	"strings"
	"testing"

	"taquin/api"
)

// P10.2: Print.

func expectPrinted(t *testing.T, d api.Draft, want string) {
	t.Helper()
	if got := Print(d); got != want {
		t.Errorf("%s: %s instead of %s", brief(whole(d)), brief(got), brief(want))
	}
}

func TestPrintDecks(t *testing.T) {
	for _, c := range []struct {
		decks [][]string
		want  string
	}{
		{nil, ""},
		{[][]string{}, ""},
		{[][]string{nil}, "deck\n"},
		{[][]string{{}, nil, {}, nil}, "deck\ndeck\ndeck\ndeck\n"},
		{[][]string{{""}}, "deck\nrow \"\"\n"},
		{[][]string{{"#.P"}}, "deck\nrow \"#.P\"\n"},
		{[][]string{{"a", "", "b c"}, nil, {"d"}}, "deck\nrow \"a\"\nrow \"\"\nrow \"b c\"\ndeck\ndeck\nrow \"d\"\n"},
		{[][]string{{`"`, `\`, "\n", "\t", "\x00\x7f\xff", "é", "# x", "deck"}}, `deck
row "\""
row "\\"
row "\n"
row "\x09"
row "\x00\x7f\xff"
row "\xc3\xa9"
row "# x"
row "deck"
`},
	} {
		expectPrinted(t, api.Draft{Decks: c.decks}, c.want)
	}
}

func TestPrintItems(t *testing.T) {
	var items []api.Item
	texts := ""
	for _, l := range itemLines() {
		expectPrinted(t, api.Draft{Items: []api.Item{l.item}}, l.text+"\n")
		expectPrinted(t, api.Draft{Decks: [][]string{{"a"}, nil}, Items: []api.Item{l.item, l.item}}, "deck\nrow \"a\"\ndeck\n"+l.text+"\n"+l.text+"\n")
		items, texts = append(items, l.item), texts+l.text+"\n"
	}
	expectPrinted(t, api.Draft{Items: items}, texts)
	expectPrinted(t, api.Draft{Decks: [][]string{{"a"}}, Items: items}, "deck\nrow \"a\"\n"+texts)
	for d, w := range []string{"east", "south", "west", "north", "up", "down"} {
		expectPrinted(t, api.Draft{Items: []api.Item{aOneway(0, 0, 1, 2, d)}}, "oneway 0 1 2 "+w+"\n")
	}
	for _, w := range manyWords() {
		expectPrinted(t, api.Draft{Items: []api.Item{aShelf(7, w, 0, 1, 2), anApart(3, w, w)}}, "shelf 0 1 2 "+w+"\napart "+w+" "+w+"\n")
	}
}

func TestPrintGreatestDrafts(t *testing.T) {
	most := api.Draft{Decks: slices.Repeat([][]string{slices.Repeat([]string{"ab"}, 4096)}, 4), Items: slices.Repeat([]api.Item{aRobot(0, 1, 2, 3, 4)}, 5000)}
	expectPrinted(t, most, strings.Repeat("deck\n"+strings.Repeat("row \"ab\"\n", 4096), 4)+strings.Repeat("robot 1 2 3 4\n", 5000))
	expectPrinted(t, api.Draft{Decks: [][]string{{strings.Repeat("\xff", 4096)}}}, "deck\nrow \""+strings.Repeat(`\xff`, 4096)+"\"\n")
	most.Items = append(most.Items, aRobot(0, 1, 2, 3, 4))
	expectPrinted(t, most, "")
}

// P10.2: Same.

func expectSame(t *testing.T, a, b api.Draft, want bool) {
	t.Helper()
	if Same(a, b) != want || Same(b, a) != want {
		t.Errorf("%s, %s: %t %t", brief(whole(a)), brief(whole(b)), Same(a, b), Same(b, a))
	}
}

// different returns drafts of which no two are the same; some of them are not right.
func different() []api.Draft {
	l := []api.Draft{
		{},
		{Decks: [][]string{nil}},
		{Decks: [][]string{nil, nil}},
		{Decks: [][]string{{""}}},
		{Decks: [][]string{{"", ""}}},
		{Decks: [][]string{{""}, nil}},
		{Decks: [][]string{nil, {""}}},
		{Decks: [][]string{{""}, {""}}},
		{Decks: [][]string{{"a"}}},
		{Decks: [][]string{{"a ", "b"}}},
		{Decks: [][]string{{"a", " b"}}},
		{Decks: [][]string{{"a", "b"}}},
		{Decks: [][]string{{"b", "a"}}},
		{Decks: [][]string{{"a"}, {"b"}}},
		{Decks: [][]string{{"ab"}}},
		{Decks: [][]string{{"a", "b", ""}}},
		{Decks: [][]string{{"a", "b"}}, Items: []api.Item{{}}},
		{Items: []api.Item{{}}},
		{Items: []api.Item{{}, {}}},
		{Items: []api.Item{{Kind: 1}}},
		{Items: []api.Item{{Kind: -1}}},
		{Items: []api.Item{{Kind: api.ItKinds}}},
		{Items: []api.Item{{Kind: 1 << 40}}},
		{Items: []api.Item{{Name: "a"}}},
		{Items: []api.Item{{Name: "A"}}},
		{Items: []api.Item{{Other: "a"}}},
		{Items: []api.Item{{Name: "a", Other: "a"}}},
		{Items: []api.Item{{N: []int{0}}}},
		{Items: []api.Item{{N: []int{0, 0}}}},
		{Items: []api.Item{{N: []int{1, 0}}}},
		{Items: []api.Item{{N: []int{0, 1}}}},
		{Items: []api.Item{{N: []int{-1}}}},
		{Items: []api.Item{{N: []int{1 << 40}}}},
		{Items: []api.Item{{N: []int{0}}, {}}},
		{Items: []api.Item{{}, {N: []int{0}}}},
		{Items: []api.Item{{}, {Kind: 1}}},
		{Items: []api.Item{{Kind: 1}, {}}},
		{Decks: make([][]string, 5)},
		{Items: make([]api.Item, 5001)},
		{Items: make([]api.Item, 5002)},
	}
	for i, item := range rightItems() {
		l = append(l, api.Draft{Items: []api.Item{item}})
		l = append(l, api.Draft{Items: rightItems()[:i+3]})
	}
	return l
}

func TestSame(t *testing.T) {
	l := different()
	for i, a := range l {
		for j, b := range l {
			expectSame(t, clone(a), b, i == j)
		}
	}
}

func TestSameWhateverTheLines(t *testing.T) {
	for _, a := range different() {
		b := clone(a)
		for i := range b.Items {
			b.Items[i].Line = -5 * i
		}
		expectSame(t, a, b, true)
		if i := len(b.Items); i > 0 {
			b.Items[i-1].Kind++
			expectSame(t, a, b, false)
		}
	}
}

func TestSameWithNilAndEmptyLists(t *testing.T) {
	expectSame(t, api.Draft{}, api.Draft{Decks: [][]string{}, Items: []api.Item{}}, true)
	expectSame(t, api.Draft{Decks: [][]string{nil, {}}}, api.Draft{Decks: [][]string{{}, nil}}, true)
	expectSame(t, api.Draft{Items: []api.Item{{N: []int{}}, {}}}, api.Draft{Items: []api.Item{{}, {N: []int{}}}}, true)
	expectSame(t, api.Draft{Decks: [][]string{}}, api.Draft{Decks: [][]string{{}}}, false)
	expectSame(t, api.Draft{Decks: [][]string{{}}}, api.Draft{Decks: [][]string{{""}}}, false)
	expectSame(t, api.Draft{Items: []api.Item{}}, api.Draft{Items: []api.Item{{N: []int{}}}}, false)
}

// TestSameOfChanges changes one thing at each place of a draft.
func TestSameOfChanges(t *testing.T) {
	a := api.Draft{Decks: [][]string{{"a", "b"}, nil, {"", "c"}}, Items: rightItems()}
	check := func(change func(d *api.Draft)) {
		t.Helper()
		b := clone(a)
		expectSame(t, a, b, true)
		change(&b)
		expectSame(t, a, b, false)
	}
	for i, rows := range a.Decks {
		check(func(d *api.Draft) { d.Decks = slices.Delete(d.Decks, i, i+1) })
		check(func(d *api.Draft) { d.Decks[i] = append(d.Decks[i], "") })
		for j := range rows {
			check(func(d *api.Draft) { d.Decks[i][j] += "x" })
			check(func(d *api.Draft) { d.Decks[i] = slices.Delete(d.Decks[i], j, j+1) })
		}
	}
	check(func(d *api.Draft) { d.Decks = append(d.Decks, nil) })
	for i, item := range a.Items {
		check(func(d *api.Draft) { d.Items = slices.Delete(d.Items, i, i+1) })
		check(func(d *api.Draft) { d.Items = slices.Insert(d.Items, i, item) })
		check(func(d *api.Draft) { d.Items[i].Kind++ })
		check(func(d *api.Draft) { d.Items[i].Name += "x" })
		check(func(d *api.Draft) { d.Items[i].Other += "x" })
		check(func(d *api.Draft) { d.Items[i].N = append(d.Items[i].N, 0) })
		for j := range item.N {
			check(func(d *api.Draft) { d.Items[i].N[j]++ })
			check(func(d *api.Draft) { d.Items[i].N = slices.Delete(d.Items[i].N, j, j+1) })
		}
	}
	check(func(d *api.Draft) { d.Items[0], d.Items[5] = d.Items[5], d.Items[0] })
}
