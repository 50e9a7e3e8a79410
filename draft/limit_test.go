package draft

import (
	"slices"
	"strings"
	"testing"

	"taquin/api"
)

// P10.1: the limits of decks, rows and items. As no source has room for 4097 rows or 5001 items, these are read from tokens.

func expectRead(t *testing.T, lines []string, d api.Draft, err api.Errno, line int) {
	t.Helper()
	got, gotErr, gotLine := readLines(lines)
	expectResult(t, strings.Join(lines[:min(len(lines), 5)], "; "), got, gotErr, gotLine, d, err, line)
}

func TestReadLines(t *testing.T) {
	lines := []string{"deck", "", `row "a" # b`, "shelf 0 1 2 c"}
	expectRead(t, lines, api.Draft{Decks: [][]string{{"a"}}, Items: []api.Item{aShelf(4, "c", 0, 1, 2)}}, api.OK, 0)
	expectRead(t, append(lines, "", "row", "x"), api.Draft{}, api.ErrSyntax, 6)
	expectRead(t, nil, api.Draft{}, api.OK, 0)
}

// tails are further tokens on a line, after which it has another fault.
var tails = []string{"", " deck", " 5", ` "a"`, " a", " row", " # b", "\n", "\nx", ` "a" "b"`}

func TestFourDecks(t *testing.T) {
	four := "deck\nrow \"a\"\ndeck\ndeck\n# c\ndeck\nrow \"b\"\n"
	expectDecks(t, four, []string{"a"}, nil, nil, []string{"b"})
	for _, tail := range tails {
		expectError(t, four+"deck"+tail, api.ErrFull, 8)
		expectError(t, four+"\n\n deck"+tail+"\n", api.ErrFull, 10)
		expectError(t, four+"deck\nx"+tail+"\n", api.ErrFull, 8)
		expectError(t, four+"x\ndeck"+tail+"\n", api.ErrSyntax, 8)
	}
	expectError(t, four+"deck\ndeck", api.ErrFull, 8)
	expectError(t, strings.Repeat("deck\n", 4000), api.ErrFull, 5)
	// Other lines may follow, but what follows them on their line may not.
	expect(t, four+"shelf 0 0 0 deck\nrow \"c\"", api.Draft{Decks: [][]string{{"a"}, nil, nil, {"b", "c"}}, Items: []api.Item{aShelf(8, "deck", 0, 0, 0)}}, api.OK, 0)
	expectError(t, four+"shelf 0 0 0 a deck", api.ErrSyntax, 8)
	expectError(t, four+`row "a" deck`, api.ErrSyntax, 8)
}

func TestRowsOfEachLength(t *testing.T) {
	for _, n := range []int{0, 1, 20, 255, 256, 4095, 4096} {
		row := strings.Repeat(".", n)
		expectDecks(t, "deck\nrow \""+row+"\"", []string{row})
		expectDecks(t, "deck\nrow \""+row+"\"\nrow \""+row+"\"\n", []string{row, row})
		expectError(t, "deck\nrow \""+row+"\" 5", api.ErrSyntax, 2)
		expectError(t, "deck\nrow \""+row+"\" \"a\"\n", api.ErrSyntax, 2)
	}
	for _, n := range []int{4097, 4098, 8192, 19985} {
		row := `row "` + strings.Repeat(".", n) + `"`
		expectError(t, "deck\n"+row, api.ErrFull, 2)
		for _, tail := range tails {
			if n < 10000 {
				expectError(t, "deck\n"+row+tail, api.ErrFull, 2)
				expectError(t, "deck\nrow \"a\"\n\n"+row+tail+"\n", api.ErrFull, 4)
				expectError(t, "deck\nx\n"+row+tail, api.ErrSyntax, 2)
				expectError(t, "deck\n"+row+tail+"\nx", api.ErrFull, 2)
			}
		}
	}
}

func TestTheBytesOfARowAreItsContents(t *testing.T) {
	for _, c := range []struct{ quoted, contents string }{{`\"`, `"`}, {`\\`, `\`}, {`\n`, "\n"}, {`\x00`, "\x00"}, {`\xff`, "\xff"}} {
		expectDecks(t, "deck\nrow \""+strings.Repeat(c.quoted, 4096)+"\"", []string{strings.Repeat(c.contents, 4096)})
		expectError(t, "deck\nrow \""+strings.Repeat(c.quoted, 4097)+"\"", api.ErrFull, 2)
		expectError(t, "deck\nrow \""+strings.Repeat(c.quoted, 4096)+".\" 5", api.ErrFull, 2)
	}
}

func TestALongTextThatIsNoRow(t *testing.T) {
	long := `"` + strings.Repeat("a", 4097) + `"`
	for _, text := range []string{long, "x " + long, "row 5 " + long, "row a " + long, `row "a" ` + long, "row row " + long, "deck " + long, "zone " + long, "zone a " + long, "shelf 0 0 0 " + long, "oneway 0 0 0 " + long, "robot 0 0 0 0 " + long} {
		expectError(t, "deck\n"+text, api.ErrSyntax, 2)
		expectError(t, "deck\n\n"+text+"\n", api.ErrSyntax, 3)
	}
	expectError(t, "row "+long, api.ErrSyntax, 1) // there is no deck of which it would be a row
}

func TestRowsOfADeck(t *testing.T) {
	most := append([]string{"deck"}, slices.Repeat([]string{`row ""`}, 4096)...)
	rows := make([]string, 4096)
	expectRead(t, most, api.Draft{Decks: [][]string{rows}}, api.OK, 0)
	expectRead(t, most[:4096], api.Draft{Decks: [][]string{rows[:4095]}}, api.OK, 0)
	expectRead(t, append(slices.Clip(most), "deck", `row "a"`), api.Draft{Decks: [][]string{rows, {"a"}}}, api.OK, 0)
	long := `"` + strings.Repeat("a", 4097) + `"`
	for _, text := range []string{`row ""`, `row "a"`, "row", "row 5", "row a", `row "a" 5`, "row row", "row # a", "row " + long, "row 5 " + long} {
		expectRead(t, append(slices.Clip(most), text), api.Draft{}, api.ErrFull, 4098)
		expectRead(t, append(slices.Clip(most), "", "shelf 0 0 0 row", text, "x"), api.Draft{}, api.ErrFull, 4100)
		expectRead(t, append(slices.Clip(most), "x", text), api.Draft{}, api.ErrSyntax, 4098)
		expectRead(t, append(append(slices.Clip(most), most...), text), api.Draft{}, api.ErrFull, 8195)
	}
	var all []string
	for range 4 {
		all = append(all, most...)
	}
	expectRead(t, all, api.Draft{Decks: [][]string{rows, rows, rows, rows}}, api.OK, 0)
	expectRead(t, append(all, "deck"), api.Draft{}, api.ErrFull, 4*4097+1)
}

func TestItemsOfADraft(t *testing.T) {
	var lines []string
	var items []api.Item
	for len(lines) < 5000 {
		for _, l := range itemLines() {
			l.item.Line = len(lines) + 1
			lines, items = append(lines, l.text), append(items, l.item)
		}
	}
	lines, items = slices.Clip(lines[:5000]), slices.Clip(items[:5000])
	expectRead(t, lines, api.Draft{Items: items}, api.OK, 0)
	expectRead(t, lines[:4999], api.Draft{Items: items[:4999]}, api.OK, 0)
	expectRead(t, append(lines, "", "deck", `row "a"`), api.Draft{Decks: [][]string{{"a"}}, Items: items}, api.OK, 0)
	for _, word := range []string{"zone", "shift", "oneway", "apart", "shelf", "robot"} {
		for _, tail := range []string{"", " 5", ` "a"`, " a", " a 0 0 0 0 0 0 0", " 0 0 0 east", " a b c", " 0 0 0 0", " 0 0 0 a", " a 0 0", " # b"} {
			expectRead(t, append(lines, word+tail), api.Draft{}, api.ErrFull, 5001)
			expectRead(t, append(lines, "", "deck", word+tail, "x"), api.Draft{}, api.ErrFull, 5003)
			expectRead(t, append(lines, "x", word+tail), api.Draft{}, api.ErrSyntax, 5001)
		}
	}
	for _, text := range []string{"x", "5", `"zone"`, "deck zone", `row "a"`, "deck deck"} {
		expectRead(t, append(lines, text, "zone"), api.Draft{}, api.ErrSyntax, 5001)
	}
}

func TestMaxItems(t *testing.T) {
	if MaxItems != 5000 {
		t.Error(MaxItems)
	}
}
