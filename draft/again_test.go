package draft

import (
	"math/rand"
	"slices"
	"strings"
	"testing"

	"taquin/api"
	"taquin/lex"
)

// P10.4: a right draft is read from its text as it was, and what Parse returns is right.

// checkAgain checks this for what Parse returns for a source.
func checkAgain(t *testing.T, src string) {
	t.Helper()
	d, err, _ := Parse(src)
	if err == api.OK {
		checkReadAgain(t, d)
	}
}

// checkReadAgain checks this for a right draft.
func checkReadAgain(t *testing.T, d api.Draft) {
	t.Helper()
	text := Print(d)
	if !Right(d) || !modelRight(d) {
		t.Errorf("%s: not right", brief(whole(d)))
	}
	if len(text) > api.MaxSource {
		expectError(t, text, api.ErrFull, 0)
		return
	}
	again, err, line := Parse(text)
	if err != api.OK || line != 0 || whole(without(again)) != whole(without(d)) || !Same(again, d) || !Right(again) {
		t.Errorf("%s: %d, %d, %s", brief(whole(d)), err, line, brief(whole(again)))
	}
	if Print(again) != text {
		t.Errorf("%s: %s", brief(text), brief(Print(again)))
	}
	for i, item := range again.Items { // each item has a line of its own, behind those of the decks
		if first := strings.Count(Print(api.Draft{Decks: d.Decks}), "\n") + 1; item.Line != first+i {
			t.Errorf("%s: %d", brief(text), item.Line)
		}
	}
}

// modelRight reports whether a draft is right, by the definition.
func modelRight(d api.Draft) bool {
	right := len(d.Decks) <= 4 && len(d.Items) <= 5000
	for _, rows := range d.Decks {
		right = right && len(rows) <= 4096
		for _, row := range rows {
			right = right && len(row) <= 4096
		}
	}
	for _, item := range d.Items {
		right = right && modelRightItem(item)
	}
	return right
}

func modelRightItem(item api.Item) bool {
	least := 0
	for _, n := range item.N {
		least = min(least, n)
	}
	word, none := lex.Word(item.Name), item.Name == ""
	switch item.Kind {
	case api.ItZone:
		return len(item.N) == 7 && least == 0 && word && item.Other == ""
	case api.ItShift:
		return len(item.N) == 2 && least == 0 && word && item.Other == ""
	case api.ItOneway:
		return len(item.N) == 4 && least == 0 && item.N[3] <= 5 && none && item.Other == ""
	case api.ItApart:
		return len(item.N) == 0 && word && lex.Word(item.Other)
	case api.ItShelf:
		return len(item.N) == 3 && least == 0 && (word || none) && item.Other == ""
	case api.ItRobot:
		return len(item.N) == 4 && least == 0 && none && item.Other == ""
	}
	return false
}

func TestDraftsReadAgain(t *testing.T) {
	for _, src := range rightLines() {
		checkAgain(t, "deck\n"+src)
		checkAgain(t, "\n# a\ndeck\n\n"+src+"\n"+src)
	}
	for _, d := range different() {
		if modelRight(d) {
			checkReadAgain(t, d)
		}
	}
	rnd := rand.New(rand.NewSource(12))
	for range 10000 {
		checkReadAgain(t, drawDraft(rnd))
	}
}

func TestRowsReadAgain(t *testing.T) {
	var rows []string
	for b := range 256 {
		rows = append(rows, one(b))
		checkReadAgain(t, api.Draft{Decks: [][]string{{one(b) + `"`, `\` + one(b)}}})
	}
	checkReadAgain(t, api.Draft{Decks: [][]string{rows, nil, {strings.Join(rows, "")}}})
	for _, n := range []int{4095, 4096} {
		checkReadAgain(t, api.Draft{Decks: [][]string{{strings.Repeat("a", n)}, {strings.Repeat("\x00", n/2)}}})
		checkReadAgain(t, api.Draft{Decks: [][]string{{strings.Repeat("\xff", n)}}})
	}
}

func TestTextsOfTheGreatestLength(t *testing.T) {
	// A deck has 5 bytes, a row 7 more than its contents, and this shelf 12.
	row := func(n int) string { return strings.Repeat("a", n) }
	d := api.Draft{Decks: [][]string{{row(4000), row(4000), row(4000), row(4000)}, {row(3938)}}, Items: []api.Item{aShelf(0, "", 0, 0, 0)}}
	if text := Print(d); len(text) != 19995 {
		t.Error(len(text))
	}
	checkReadAgain(t, d)
	for n := 3938; n < 3960; n++ {
		d.Decks[1][0] = row(n)
		checkReadAgain(t, d)
	}
}

func TestGreatestDraftsReadAgain(t *testing.T) {
	d := api.Draft{Decks: slices.Repeat([][]string{slices.Repeat([]string{"", `"`}, 2048)}, 4), Items: slices.Repeat(rightItems(), 300)[:5000]}
	checkReadAgain(t, d)
	got, err, line := readLines(strings.Split(Print(d), "\n"))
	if err != api.OK || line != 0 || !Same(got, d) {
		t.Error(err, line)
	}
}

// TestRightOfRandomDrafts compares Right with the definition.
func TestRightOfRandomDrafts(t *testing.T) {
	rnd := rand.New(rand.NewSource(13))
	right := 0
	for range 40000 {
		d := drawDraft(rnd)
		for i := range d.Items {
			item := &d.Items[i]
			switch rnd.Intn(40) {
			case 0:
				item.Kind += rnd.Intn(5) - 2
			case 1:
				item.Name = []string{"", "a", "1"}[rnd.Intn(3)]
			case 2:
				item.Other = []string{"", "a", "1"}[rnd.Intn(3)]
			case 3:
				item.N = item.N[:rnd.Intn(len(item.N)+1)]
			case 4:
				item.N = append(item.N, rnd.Intn(9)-2)
			case 5:
				if len(item.N) > 0 {
					item.N[rnd.Intn(len(item.N))] = rnd.Intn(12) - 3
				}
			}
		}
		expectRight(t, d, modelRight(d))
		if Right(d) {
			right++
		}
	}
	if right < 10000 || right > 35000 {
		t.Error(right)
	}
}

// P10.5: empty lines, comments and spaces between tokens change nothing but Lines; the order of items is kept.

// spread returns a source with the tokens of src, among empty lines, comments and white bytes; and the lines on which the lines of src stand then.
func spread(rnd *rand.Rand, src string) (string, []int) {
	tokens, _, _ := lex.Lex(src)
	var out strings.Builder
	lines := []int{0, 1} // no line has the number 0
	blank := func() {
		for range rnd.Intn(3) {
			out.WriteByte(" \t\r"[rnd.Intn(3)])
		}
	}
	lineEnd := func() {
		out.WriteString([]string{"", "", "#", "# a", "# deck\r", "#\"b", "## 01 -\xff"}[rnd.Intn(7)])
	}
	for i, token := range tokens {
		if i == 0 || tokens[i-1].Kind == api.TkLine {
			for range rnd.Intn(3) {
				blank()
				lineEnd()
				out.WriteString("\n")
				lines[len(lines)-1]++
			}
		}
		blank()
		if token.Kind == api.TkLine || token.Kind == api.TkEnd {
			lineEnd()
			lines = append(lines, lines[len(lines)-1]+1)
		}
		out.WriteString(lex.Write([]api.Token{token}))
	}
	return out.String(), lines
}

// checkSpread checks this for a source.
func checkSpread(t *testing.T, rnd *rand.Rand, src string) {
	t.Helper()
	d, err, line := Parse(src)
	d = clone(d)
	spreadOut, lines := spread(rnd, src)
	for i := range d.Items {
		d.Items[i].Line = lines[d.Items[i].Line]
	}
	expect(t, spreadOut, d, err, lines[line])
}

func TestBlanksChangeNothingButLines(t *testing.T) {
	rnd := rand.New(rand.NewSource(14))
	for _, src := range append(rightLines(), "", "deck\nrow \"a\"\nshelf 0 0 0", "x", "deck\n5", "deck\nrow\n\"a\"", "zone a", "deck\ndeck\ndeck\ndeck\n\ndeck 5\n", "shelf 0 0 0\nshelf") {
		for range 20 {
			checkSpread(t, rnd, src)
			checkSpread(t, rnd, "deck\n"+src+"\n")
		}
	}
	for i := range 10000 {
		checkSpread(t, rnd, spoilTokens(rnd, Print(drawDraft(rnd)), i%3))
	}
}

func TestBlanksOfALine(t *testing.T) {
	for _, src := range []string{"zone a 0 1 2 3 4 5 6", " zone a 0 1 2 3 4 5 6", "zone\ta\r0  1 2 3 4 5 6", "zone a 0 1 2 3 4 5 6# x", "zone a 0 1 2 3 4 5 6\t \r"} {
		expectItems(t, src, aZone(1, "a", 0, 1, 2, 3, 4, 5, 6))
		expectItems(t, "\n"+src, aZone(2, "a", 0, 1, 2, 3, 4, 5, 6))
		expectItems(t, "# zone b 0 0 0 0 0 0 0\n"+src+"\n\n#", aZone(2, "a", 0, 1, 2, 3, 4, 5, 6))
	}
	expectDecks(t, `deck`+"\n"+`row"a"`, []string{"a"})
	// A comment takes the rest of its line, and what a line has can't go on behind it.
	expectItems(t, "shelf 0 0 0 # a", aShelf(1, "", 0, 0, 0))
	expectError(t, "shelf 0 0 # 0", api.ErrSyntax, 1)
	expectError(t, "shelf 0 0 # a\n0", api.ErrSyntax, 1)
	// Without white bytes between them, tokens are others.
	expectError(t, "shelf0 0 0", api.ErrSyntax, 1)
	expectError(t, "apart ab", api.ErrSyntax, 1)
}

func TestTheOrderOfItemsIsKept(t *testing.T) {
	expect(t, "robot 0 0 0 1\nshelf 0 1 1 b\nzone z 0 0 0 0 0 1 0\ndeck\napart b a\nshelf 0 2 2 a\noneway 0 0 0 up\nrow \"a\"\nshift z 0 1\nshelf 0 0 0\nzone y 1 1 1 1 1 1 1\nrobot 0 0 0 0\ndeck\napart a b\n",
		api.Draft{
			Decks: [][]string{{"a"}, nil},
			Items: []api.Item{aRobot(1, 0, 0, 0, 1), aShelf(2, "b", 0, 1, 1), aZone(3, "z", 0, 0, 0, 0, 0, 1, 0), anApart(5, "b", "a"), aShelf(6, "a", 0, 2, 2), aOneway(7, 0, 0, 0, 4), aShift(9, "z", 0, 1), aShelf(10, "", 0, 0, 0), aZone(11, "y", 1, 1, 1, 1, 1, 1, 1), aRobot(12, 0, 0, 0, 0), anApart(14, "a", "b")},
		}, api.OK, 0)
	items := rightItems()
	rnd := rand.New(rand.NewSource(15))
	for range 1000 {
		rnd.Shuffle(len(items), func(i, j int) { items[i], items[j] = items[j], items[i] })
		checkReadAgain(t, api.Draft{Items: items})
	}
}
