package draft

import (
	"slices"
	"strings"
	"testing"

	"taquin/api"
)

// P10.1: errors, and their lines.

// surround calls check for sources in which a line stands among others, none of which is wrong ahead of it, and with its number.
func surround(text string, check func(src string, line int)) {
	for _, before := range []string{"", "\n", "# a\n\n \n", "deck\n", "deck\nrow \"#\"\n", "shelf 0 0 0\n\nrobot 0 0 0 0\n", "deck\ndeck\ndeck\ndeck\nrow \"a\"\n"} {
		if strings.HasPrefix(strings.TrimLeft(text, " \t\r"), rowWord) && !strings.Contains(before, deckWord) {
			continue
		}
		if strings.HasPrefix(text, deckWord) && strings.Count(before, deckWord) == 4 {
			continue
		}
		line := strings.Count(before, "\n") + 1
		for _, after := range []string{"", "\n", " # x", "\n\n# a\n", "\ndeck\n", "\nx\n", "\nrow 5", "\n\"a\" deck", "\ndeck\ndeck\ndeck\ndeck\ndeck"} {
			check(before+text+after, line)
		}
	}
}

func expectWrong(t *testing.T, text string) {
	t.Helper()
	surround(text, func(src string, line int) {
		t.Helper()
		expectError(t, src, api.ErrSyntax, line)
	})
}

// rightLines returns lines that are right after a deck.
func rightLines() []string {
	l := []string{"deck", `row "#.P"`, `row ""`}
	for _, line := range itemLines() {
		l = append(l, line.text)
	}
	return l
}

// isRight reports whether a source has no error after a deck.
func isRight(text string) bool {
	_, err, _ := Parse("deck\n" + text)
	return err == api.OK
}

func TestRightLines(t *testing.T) {
	for _, text := range rightLines() {
		if !isRight(text) {
			t.Error(text)
		}
	}
}

func TestATokenThatIsMissing(t *testing.T) {
	for _, text := range rightLines() {
		tokens := strings.Fields(text)
		for i := range tokens {
			rest := strings.Join(slices.Delete(slices.Clone(tokens), i, i+1), " ")
			if i == 0 && tokens[0] == "deck" || i == 4 && tokens[0] == "shelf" {
				if !isRight(rest) { // an empty line, and a shelf without its Name
					t.Error(rest)
				}
				continue
			}
			expectWrong(t, rest)
		}
		for i := 1; i < len(tokens); i++ { // all tokens from there on are missing
			if i != 4 || tokens[0] != "shelf" {
				expectWrong(t, strings.Join(tokens[:i], " "))
			}
		}
	}
}

func TestATokenTooMany(t *testing.T) {
	for _, text := range rightLines() {
		for _, more := range append(allWords(), "a", "0", "7", `""`, `"a"`) {
			if strings.HasPrefix(text, "shelf") && len(strings.Fields(text)) == 4 && more[0] >= 'a' {
				if !isRight(text + " " + more) { // the Name of the shelf
					t.Error(text, more)
				}
				more += " " + more
			}
			expectWrong(t, text+" "+more)
			expectWrong(t, text+" "+more+" "+more)
		}
		expectWrong(t, text+` "b" `+text)
	}
}

func TestTwoLinesInOne(t *testing.T) {
	for _, a := range rightLines() {
		for _, b := range rightLines() {
			if a == "shelf 0 1 2" && b == "deck" || a == "shelf 9223372036854775807 0 7" && b == "deck" {
				if !isRight(a + " " + b) { // here deck is the Name of the shelf
					t.Error(a, b)
				}
				continue
			}
			expectWrong(t, a+" "+b)
		}
	}
}

// kindOf returns which kind of token can stand at a place instead of the one that does.
func kindOf(tokens []string, i int) string {
	switch {
	case i == 0:
		return "none"
	case tokens[0] == "oneway" && i == 4:
		return "direction"
	case '0' <= tokens[i][0] && tokens[i][0] <= '9':
		return "number"
	case tokens[i][0] == '"':
		return "text"
	}
	return "word"
}

func TestATokenOfAnotherKind(t *testing.T) {
	kinds := map[string][]string{
		"word":      {"a", "Z-9_", "_", "zone", "row", "East", "EAST", "eas", "east-", "north_east"},
		"number":    {"0", "1", "5", "9223372036854775807"},
		"text":      {`""`, `"a"`, `"0"`, `"7"`, `"east"`, `"\n"`, `"zone"`},
		"direction": {"east", "up", "down"},
	}
	for _, text := range rightLines() {
		tokens := strings.Fields(text)
		for i := range tokens {
			wanted := kindOf(tokens, i)
			for kind, l := range kinds {
				for _, token := range l {
					changed := slices.Clone(tokens)
					changed[i] = token
					src := strings.Join(changed, " ")
					if kind == wanted || kind == "direction" && wanted == "word" {
						if !isRight(src) {
							t.Error(src)
						}
					} else if i > 0 || token != "zone" && token != "row" {
						expectWrong(t, src)
					}
				}
			}
		}
	}
}

func TestNoWordOfDirections(t *testing.T) {
	for _, d := range []string{"East", "EAST", "e", "eas", "easts", "east1", "_east", "southwest", "left", "n", "upp", "u", "downs", "deck", "oneway", "0", "1", "5", "6", `"east"`, `"up"`, `""`, "north north", "0 east", "east 0", ""} {
		expectWrong(t, "oneway 0 0 0 "+d)
	}
	expectWrong(t, "oneway east 0 0 0")
	expectWrong(t, "oneway 0 0 east")
	expectWrong(t, "oneway 0 0 0 0 east")
}

func TestLinesThatBeginOtherwise(t *testing.T) {
	for _, begin := range []string{
		"a", "x", "_", "decks", "dec", "Deck", "DECK", "deck-", "deck1", "rows", "ro", "zones", "zon", "Zone", "shifts", "one-way", "aparts", "shelves", "robots", "port", "wall", "east", "south", "west", "north", "up", "down",
		"0", "1", "9223372036854775807", `""`, `"deck"`, `"row"`, `"zone"`, `"a"`, `"\n"`,
	} {
		for _, rest := range []string{"", " deck", ` row "a"`, " 0 1 2", " a", ` "a"`, " a 0 1 2 3 4 5 6", " a 0 1", " 0 1 2 east", " a b", " 0 1 2 a", " 0 1 2 3", " shelf 0 1 2"} {
			expectWrong(t, begin+rest)
			expectWrong(t, " \t"+begin+" "+rest+" ")
		}
	}
}

func TestRowAheadOfTheFirstDeck(t *testing.T) {
	for _, row := range []string{`row "#"`, `row ""`, "row", "row 5", "row a", `row "a" 5`, `row"a"`, "row row", "row deck", `row "` + strings.Repeat("a", 4097) + `"`} {
		expectError(t, row, api.ErrSyntax, 1)
		expectError(t, row+"\n", api.ErrSyntax, 1)
		expectError(t, row+"\ndeck\n"+row, api.ErrSyntax, 1)
		expectError(t, "\n\n"+row+"\n", api.ErrSyntax, 3)
		expectError(t, "# deck\n"+row, api.ErrSyntax, 2)
		expectError(t, "shelf 0 0 0 deck\nzone deck 0 0 0 0 0 0 0\n\n"+row, api.ErrSyntax, 4)
	}
	expectDecks(t, "deck\nrow \"#\"", []string{"#"})
}

func TestTheLineOfWhatIsMissing(t *testing.T) {
	for _, text := range []string{"row", "zone", "zone a", "zone a 0 0 0 0 0 0", "shift", "shift a 1", "oneway 0 0 0", "apart", "apart a", "shelf", "shelf 0 1", "robot 0 0 0"} {
		expectError(t, "deck\n"+text, api.ErrSyntax, 2)
		expectError(t, "deck\n"+text+" # 0\n", api.ErrSyntax, 2)
		expectError(t, "deck\n\n\n"+text+"\n\n\n", api.ErrSyntax, 4)
		expectError(t, "deck\n\n\n"+text, api.ErrSyntax, 4)
		// What is missing does not stand on the next line.
		expectError(t, "deck\n"+text+"\n0", api.ErrSyntax, 2)
		expectError(t, "deck\n"+text+"\n\"a\"\n", api.ErrSyntax, 2)
		expectError(t, "deck\n"+text+"\neast b 0\n", api.ErrSyntax, 2)
	}
	for _, l := range itemLines() {
		for i, c := range l.text {
			if c == ' ' && (l.item.Kind != api.ItShelf || i < len("shelf 0 1")) {
				expectError(t, "deck\n"+l.text[:i]+"\n"+l.text[i:], api.ErrSyntax, 2)
				expectError(t, "deck\n"+l.text[:i]+"\r\n"+l.text[i:]+"\n", api.ErrSyntax, 2)
			}
		}
	}
	expectError(t, "shelf 0 1 2\ncold", api.ErrSyntax, 2)
	expectError(t, "deck\nrow\n\"a\"", api.ErrSyntax, 2)
}

func TestTheFirstOfTwoErrors(t *testing.T) {
	four := strings.Repeat("deck\n", 4)
	wrong := []string{"x", "5", `"a"`, `row "a" 1`, "row", "zone 5", "shelf 0 1", "oneway 0 0 0 left", "apart a b c"}
	for _, a := range wrong {
		for _, b := range wrong {
			expectError(t, "deck\n"+a+"\n"+b, api.ErrSyntax, 2)
			expectError(t, "deck\n\n"+a+"\n\n"+b+"\n", api.ErrSyntax, 3)
		}
		expectError(t, four+a+"\ndeck", api.ErrSyntax, 5)
		expectError(t, four+"\n"+a+" deck\ndeck\n", api.ErrSyntax, 6)
		expectError(t, four+"deck\n"+a, api.ErrFull, 5)
		expectError(t, four+"deck "+a, api.ErrFull, 5)
	}
}

func TestErrorsOfTokens(t *testing.T) {
	wrong := map[string]api.Errno{"-": api.ErrSyntax, "01": api.ErrSyntax, "1a": api.ErrSyntax, `"\a"`: api.ErrSyntax, `"b`: api.ErrSyntax, "\x00": api.ErrSyntax, "abcdefghijklmnopqrstu": api.ErrSyntax, "9223372036854775808": api.ErrRange}
	lines := []string{"", "deck", "deck\nrow \"a\"", "x", "5", "row \"#\"", "zone 5", "deck 5", "deck\nrow 5", "deck\ndeck\ndeck\ndeck\ndeck", "deck\nrow \"" + strings.Repeat("a", 4097) + `"`}
	for token, err := range wrong {
		for _, line := range lines {
			behind := strings.Count(line, "\n") + 1
			expectError(t, line+" "+token, err, behind)
			expectError(t, line+"\n\n"+token, err, behind+2)
			expectError(t, token+" "+line, err, 1)
			expectError(t, "\n"+token+"\n"+line, err, 2)
		}
		expectError(t, "zone a 0 0 0 0 0 0 "+token, err, 1)
		expectError(t, "shelf 0 0 0 a "+token+"\n", err, 1)
		expectError(t, "zone "+token+" 0", err, 1)
	}
	expectError(t, "shelf 0 0 -1", api.ErrSyntax, 1)
	expectError(t, "robot 0 0 0 9223372036854775808", api.ErrRange, 1)
	expectError(t, "robot 0 0 0 9223372036854775807 9223372036854775808", api.ErrRange, 1)
	expectError(t, "robot a\n0 9223372036854775808", api.ErrRange, 2)
}

func TestSourcesThatAreTooLong(t *testing.T) {
	expectItems(t, strings.Repeat(" ", 20000))
	for _, src := range []string{strings.Repeat(" ", 20001), strings.Repeat("deck\n", 5000), "x" + strings.Repeat("\n", 20000), "5 " + strings.Repeat("a", 20000), strings.Repeat("\xff", 20001), strings.Repeat("shelf 0 0 0\n", 5001)} {
		expectError(t, src, api.ErrFull, 0)
	}
	var items []api.Item
	for i := range 2000 {
		items = append(items, anApart(i+1, "a", "b"))
	}
	longest := strings.Repeat("apart a b\n", 2000)
	expectItems(t, longest, items...)
	expectError(t, longest+"\n", api.ErrFull, 0)
	expectError(t, longest[:19998]+"0", api.ErrSyntax, 2000)
}
