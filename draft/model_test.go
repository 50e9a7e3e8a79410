package draft

import (
	"math/rand"
	"regexp"
	"strconv"
	"strings"
	"testing"

	"taquin/api"
	"taquin/lex"
)

// The definitions of the chapter 10, without regard to how long it takes.

// pattern returns the expression for a line whose tokens are written with a space behind each: W stands for a word, N for a number, T for a text, D for a direction, and C for a word that may be missing.
func pattern(line string) *regexp.Regexp {
	tokens := strings.NewReplacer(
		"W", `([a-zA-Z_][a-zA-Z0-9_-]{0,19}) `,
		"N", `(0|[1-9][0-9]*) `,
		"T", `("(?:[^"\\]|\\.)*") `,
		"D", `(east|south|west|north|up|down) `,
		"C", `(?:([a-zA-Z_][a-zA-Z0-9_-]{0,19}) )?`,
	)
	return regexp.MustCompile(`\A` + tokens.Replace(line) + `\z`)
}

var (
	modelDeck  = pattern("deck ")
	modelRow   = pattern("row T")
	modelFirst = regexp.MustCompile(`\A([a-z]+) `)
	modelLong  = regexp.MustCompile(`\Arow ("(?:[^"\\]|\\.)*") `)
	modelItems = map[string]*regexp.Regexp{
		"zone": pattern("zone WNNNNNNN"), "shift": pattern("shift WNN"), "oneway": pattern("oneway NNND"),
		"apart": pattern("apart WW"), "shelf": pattern("shelf NNNC"), "robot": pattern("robot NNNN"),
	}
)

// model returns what Parse has to return.
func model(src string) (api.Draft, api.Errno, int) {
	tokens, err, line := lex.Lex(src)
	if err != api.OK {
		return api.Draft{}, err, line
	}
	var d api.Draft
	written := strings.Split(lex.Write(tokens), "\n") // one of them for each line, as all tokens of a line stand on one
	for i, s := range written {
		if err := modelLine(&d, s, i+1); err != api.OK {
			return api.Draft{}, err, i + 1
		}
	}
	return d, api.OK, 0
}

func modelLine(d *api.Draft, s string, line int) api.Errno {
	first := ""
	if m := modelFirst.FindStringSubmatch(s); m != nil {
		first = m[1]
	}
	switch {
	case s == "":
		return api.OK
	case first == "deck" && len(d.Decks) == 4:
		return api.ErrFull
	case modelDeck.MatchString(s):
		d.Decks = append(d.Decks, []string{})
		return api.OK
	case first == "row" && len(d.Decks) > 0:
		return modelLineOfRow(&d.Decks[len(d.Decks)-1], s)
	case modelItems[first] != nil && len(d.Items) == 5000:
		return api.ErrFull
	case modelItems[first] != nil:
		if m := modelItems[first].FindStringSubmatch(s); m != nil {
			d.Items = append(d.Items, modelItem(first, m[1:], line))
			return api.OK
		}
	}
	return api.ErrSyntax
}

func modelLineOfRow(rows *[]string, s string) api.Errno {
	if m := modelLong.FindStringSubmatch(s); len(*rows) == 4096 || m != nil && len(modelText(m[1])) > 4096 {
		return api.ErrFull
	}
	m := modelRow.FindStringSubmatch(s)
	if m == nil {
		return api.ErrSyntax
	}
	*rows = append(*rows, modelText(m[1]))
	return api.OK
}

func modelText(quoted string) string {
	s, err := strconv.Unquote(quoted)
	if err != nil {
		panic(quoted)
	}
	return s
}

func modelItem(first string, tokens []string, line int) api.Item {
	directions := map[string]int{"east": 0, "south": 1, "west": 2, "north": 3, "up": 4, "down": 5}
	kinds := map[string]int{"zone": api.ItZone, "shift": api.ItShift, "oneway": api.ItOneway, "apart": api.ItApart, "shelf": api.ItShelf, "robot": api.ItRobot}
	item := api.Item{Kind: kinds[first], Line: line}
	for i, token := range tokens {
		if n, err := strconv.Atoi(token); err == nil {
			item.N = append(item.N, n)
		} else if first == "oneway" {
			item.N = append(item.N, directions[token])
		} else if first == "apart" && i == 1 {
			item.Other = token
		} else {
			item.Name = token
		}
	}
	return item
}

func checkModel(t *testing.T, src string) {
	t.Helper()
	d, err, line := model(src)
	expect(t, src, d, err, line)
}

func TestModel(t *testing.T) {
	for i, w := range []string{"east", "south", "west", "north", "up", "down"} {
		if item := modelItem("oneway", []string{"7", "8", "9", w}, 1); item.N[3] != i {
			t.Error(w, item)
		}
	}
	for _, l := range itemLines() {
		if d, err, _ := model(l.text); err != api.OK || whole(d) != whole(api.Draft{Items: []api.Item{l.item}}) {
			t.Error(l.text, err, whole(d))
		}
	}
	if d, err, _ := model("deck\nrow \"a\\\"\"\n"); err != api.OK || whole(d) != whole(api.Draft{Decks: [][]string{{`a"`}}}) {
		t.Error(err, whole(d))
	}
}

// eachSequence calls check for all sequences of at most n of the pieces, with spaces between them.
func eachSequence(pieces []string, n int, check func(s string)) {
	var extend func(s string, n int)
	extend = func(s string, n int) {
		check(s)
		for _, piece := range pieces {
			if n > 0 {
				extend(s+piece+" ", n-1)
			}
		}
	}
	extend("", n)
}

func TestParseOfShortSequences(t *testing.T) {
	check := func(s string) { checkModel(t, s) }
	eachSequence([]string{"deck", "row", `"a"`, "\n", "apart", "b", "0"}, 5, check)
	eachSequence([]string{"deck", "\n", "x", "row", `""`}, 7, check)
	eachSequence([]string{"shelf", "0", "a", "\n", "deck"}, 7, check)
	eachSequence([]string{"oneway", "0", "up", "\n", "east", `"east"`}, 6, check)
	eachSequence([]string{"deck", "row", "zone", "shift", "oneway", "apart", "shelf", "robot", "east", "a", "0", `"a"`, "\n"}, 4, check)
}

func TestParseOfSequencesBehindOthers(t *testing.T) {
	pieces := []string{"deck", "row", "zone", "east", "a", "0", "7", `"a"`, "\n"}
	for _, before := range []string{
		"zone", "zone a", "zone a 0 0", "zone a 0 0 0 0 0", "zone a 0 0 0 0 0 0", "shift", "shift a", "shift a 0", "oneway 0 0", "oneway 0 0 0", "oneway 0 0 0 up", "apart", "apart a", "apart a b", "shelf 0 0", "shelf 0 0 0", "shelf 0 0 0 a", "robot 0 0", "robot 0 0 0", "robot 0 0 0 0",
		"deck\ndeck\ndeck\ndeck", "deck\ndeck\ndeck\ndeck\n", "deck\nrow", "deck\nrow \"a\"", "deck\nrow \"a\"\n", "deck\n\nshelf 0 0 0\n",
	} {
		eachSequence(pieces, 4, func(s string) {
			checkModel(t, before+" "+s)
		})
	}
}

// drawName returns a random word.
func drawName(rnd *rand.Rand) string {
	l := manyWords()
	return l[rnd.Intn(len(l))]
}

// drawNumber returns a random number.
func drawNumber(rnd *rand.Rand) int {
	return rnd.Int() >> rnd.Intn(64)
}

// drawRow returns a random row.
func drawRow(rnd *rand.Rand) string {
	row := ""
	for range rnd.Intn(8) {
		if rnd.Intn(4) == 0 {
			row += one(rnd.Intn(256))
		} else {
			row += one(int("#.PCWEL\"\\ \n"[rnd.Intn(11)]))
		}
	}
	return row
}

// drawItem returns a random right item.
func drawItem(rnd *rand.Rand) api.Item {
	item := api.Item{Kind: rnd.Intn(api.ItKinds), Line: rnd.Intn(100) - 50}
	numbers := []int{7, 2, 3, 0, 3, 4}[item.Kind]
	for range numbers {
		item.N = append(item.N, drawNumber(rnd))
	}
	switch item.Kind {
	case api.ItZone, api.ItShift:
		item.Name = drawName(rnd)
	case api.ItOneway:
		item.N = append(item.N, rnd.Intn(api.Dirs))
	case api.ItApart:
		item.Name, item.Other = drawName(rnd), drawName(rnd)
	case api.ItShelf:
		if rnd.Intn(2) == 0 {
			item.Name = drawName(rnd)
		}
	}
	return item
}

// drawDraft returns a random right draft.
func drawDraft(rnd *rand.Rand) api.Draft {
	var d api.Draft
	for range rnd.Intn(5) {
		rows := []string{}
		for range rnd.Intn(4) {
			rows = append(rows, drawRow(rnd))
		}
		d.Decks = append(d.Decks, rows)
	}
	for range rnd.Intn(10) {
		d.Items = append(d.Items, drawItem(rnd))
	}
	return d
}

// spoilTokens changes, at random, n of the tokens of a source.
func spoilTokens(rnd *rand.Rand, src string, n int) string {
	tokens, _, _ := lex.Lex(src)
	others, _, _ := lex.Lex("deck row zone shift oneway apart shelf robot east up a 0 7 \"a\" \"\"\n\n\n")
	for range n {
		i := rnd.Intn(len(tokens))
		switch rnd.Intn(4) {
		case 0:
			tokens[i].Kind = api.TkEnd // which is not written
		case 1:
			tokens[i] = tokens[rnd.Intn(len(tokens))]
		case 2:
			tokens[i] = others[rnd.Intn(len(others))]
		case 3:
			tokens = append(tokens[:i], append([]api.Token{others[rnd.Intn(len(others))]}, tokens[i:]...)...)
		}
	}
	return lex.Write(tokens)
}

func TestParseOfRandomSources(t *testing.T) {
	rnd := rand.New(rand.NewSource(10))
	right := 0
	for i := range 20000 {
		src := spoilTokens(rnd, Print(drawDraft(rnd)), i%4)
		checkModel(t, src)
		checkAgain(t, src)
		if _, err, _ := Parse(src); err == api.OK {
			right++
		}
	}
	if right < 6000 || right > 14000 {
		t.Error(right)
	}
}

func FuzzParse(f *testing.F) {
	rnd := rand.New(rand.NewSource(11))
	for i := range 40 {
		f.Add(spoilTokens(rnd, Print(drawDraft(rnd)), i%3))
	}
	for _, text := range rightLines() {
		f.Add("deck\n" + text + " # a\n\n")
	}
	f.Fuzz(func(t *testing.T, src string) {
		checkModel(t, src)
		checkAgain(t, src)
	})
}
