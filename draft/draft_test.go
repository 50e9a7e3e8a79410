package draft

import (
	"fmt"
	"strings"
	"testing"

	"taquin/api"
	"taquin/lex"
)

// one returns the string of one byte.
func one(b int) string {
	return string([]byte{byte(b)})
}

// brief returns a string for messages: not more than the beginning of something long.
func brief(s string) string {
	return fmt.Sprintf("%q", s[:min(len(s), 400)])
}

// whole writes down a draft with its Lines; lists that are nil and empty are the same.
func whole(d api.Draft) string {
	s := fmt.Appendf(nil, "%q", d.Decks)
	for _, item := range d.Items {
		s = fmt.Appendf(s, "\n%d: %d %q %q %d", item.Line, item.Kind, item.Name, item.Other, item.N)
	}
	return string(s)
}

// without returns the draft without its Lines.
func without(d api.Draft) api.Draft {
	d = clone(d)
	for i := range d.Items {
		d.Items[i].Line = 0
	}
	return d
}

// clone returns a copy that shares no memory with d.
func clone(d api.Draft) api.Draft {
	var c api.Draft
	for _, rows := range d.Decks {
		c.Decks = append(c.Decks, append([]string(nil), rows...))
	}
	for _, item := range d.Items {
		item.N = append([]int(nil), item.N...)
		c.Items = append(c.Items, item)
	}
	return c
}

// expect checks everything that Parse returns.
func expect(t *testing.T, src string, d api.Draft, err api.Errno, line int) {
	t.Helper()
	got, gotErr, gotLine := Parse(src)
	expectResult(t, src, got, gotErr, gotLine, d, err, line)
}

func expectResult(t *testing.T, about string, got api.Draft, gotErr api.Errno, gotLine int, d api.Draft, err api.Errno, line int) {
	t.Helper()
	if gotErr != err || gotLine != line {
		t.Errorf("%s: %d, %d instead of %d, %d", brief(about), gotErr, gotLine, err, line)
	} else if whole(got) != whole(d) {
		t.Errorf("%s: %s instead of %s", brief(about), brief(whole(got)), brief(whole(d)))
	}
}

func expectDecks(t *testing.T, src string, decks ...[]string) {
	t.Helper()
	expect(t, src, api.Draft{Decks: decks}, api.OK, 0)
}

func expectItems(t *testing.T, src string, items ...api.Item) {
	t.Helper()
	expect(t, src, api.Draft{Items: items}, api.OK, 0)
}

func expectError(t *testing.T, src string, err api.Errno, line int) {
	t.Helper()
	expect(t, src, api.Draft{}, err, line)
}

// readLines reads lines that may have more bytes together than a source.
func readLines(lines []string) (api.Draft, api.Errno, int) {
	var tokens []api.Token
	known := map[string][]api.Token{}
	for i, line := range lines {
		if known[line] == nil {
			known[line], _, _ = lex.Lex(line + "\n")
		}
		for _, token := range known[line] {
			token.Line = i + 1
			if token.Kind != api.TkEnd {
				tokens = append(tokens, token)
			}
		}
	}
	return read(append(tokens, api.Token{Kind: api.TkEnd, Line: len(lines) + 1}))
}

func aZone(line int, name string, n ...int) api.Item {
	return api.Item{Kind: api.ItZone, Line: line, Name: name, N: n}
}

func aShift(line int, name string, n ...int) api.Item {
	return api.Item{Kind: api.ItShift, Line: line, Name: name, N: n}
}

func aOneway(line int, n ...int) api.Item {
	return api.Item{Kind: api.ItOneway, Line: line, N: n}
}

func anApart(line int, name, other string) api.Item {
	return api.Item{Kind: api.ItApart, Line: line, Name: name, Other: other}
}

func aShelf(line int, name string, n ...int) api.Item {
	return api.Item{Kind: api.ItShelf, Line: line, Name: name, N: n}
}

func aRobot(line int, n ...int) api.Item {
	return api.Item{Kind: api.ItRobot, Line: line, N: n}
}

// P10.1: what Parse returns for sources without errors.

func TestParseNothing(t *testing.T) {
	for _, src := range []string{
		"", " ", "\t\r ", "\n", "\n\n\n", " \n\t\n\r\n ", "\r\n\r\n", "#", "# a comment", "# deck\n# row \"#\"\n", "#\n#\n#", "\n # zone a\n\n", "# \"", "# 01 -1", strings.Repeat("\n", 20000), strings.Repeat("#", 20000), strings.Repeat(" ", 20000),
	} {
		expectItems(t, src)
	}
}

func TestParseDecks(t *testing.T) {
	for _, c := range []struct {
		src   string
		decks [][]string
	}{
		{"deck", [][]string{nil}},
		{"deck\n", [][]string{nil}},
		{"deck\ndeck", [][]string{nil, nil}},
		{"deck\ndeck\ndeck\ndeck\n", [][]string{nil, nil, nil, nil}},
		{"deck\nrow \"\"", [][]string{{""}}},
		{"deck\nrow \"\"\nrow \"\"\n", [][]string{{"", ""}}},
		{"deck\nrow \"#.P\"\n", [][]string{{"#.P"}}},
		{"deck\nrow \"#.P\"\nrow \"...\"\nrow \"CWL\"", [][]string{{"#.P", "...", "CWL"}}},
		{"deck\nrow \"a\"\nrow \"b\"\ndeck\nrow \"c\"\n", [][]string{{"a", "b"}, {"c"}}},
		{"deck\ndeck\nrow \"c\"\n", [][]string{nil, {"c"}}},
		{"deck\nrow \"c\"\ndeck\n", [][]string{{"c"}, nil}},
		{"deck\nrow \"a\"\ndeck\nrow \"b\"\ndeck\ndeck\nrow \"c\"\nrow \"d\"\n", [][]string{{"a"}, {"b"}, nil, {"c", "d"}}},
		{"\n\n  deck # lowest\n\n\trow\t\"a\"\r\n# b\nrow\"c\"#d\n\n", [][]string{{"a", "c"}}},
		{`deck` + "\n" + `row "\"\\\n\x00\xff"`, [][]string{{"\"\\\n\x00\xff"}}},
		{"deck\nrow \"deck\"\nrow \"row\"\nrow \"# \\\" a\"\nrow \" \"", [][]string{{"deck", "row", `# " a`, " "}}},
	} {
		expectDecks(t, c.src, c.decks...)
	}
}

// line is a line that is right, and its item (with the Line 1).
type line struct {
	text string
	item api.Item
}

// itemLines returns lines of each Kind.
func itemLines() []line {
	const most = 1<<63 - 1
	return []line{
		{"zone a 0 1 2 3 4 5 6", aZone(1, "a", 0, 1, 2, 3, 4, 5, 6)},
		{"zone cold-1 9223372036854775807 0 9223372036854775807 0 0 9223372036854775807 0", aZone(1, "cold-1", most, 0, most, 0, 0, most, 0)},
		{"shift a 0 1", aShift(1, "a", 0, 1)},
		{"shift _ 9223372036854775807 9223372036854775806", aShift(1, "_", most, most-1)},
		{"oneway 0 1 2 east", aOneway(1, 0, 1, 2, 0)},
		{"oneway 3 4 5 south", aOneway(1, 3, 4, 5, 1)},
		{"oneway 0 0 0 west", aOneway(1, 0, 0, 0, 2)},
		{"oneway 1 0 9223372036854775807 north", aOneway(1, 1, 0, most, 3)},
		{"oneway 10 20 30 up", aOneway(1, 10, 20, 30, 4)},
		{"oneway 9223372036854775807 1 1 down", aOneway(1, most, 1, 1, 5)},
		{"apart a b", anApart(1, "a", "b")},
		{"apart Z-9 Z-9", anApart(1, "Z-9", "Z-9")},
		{"apart abcdefghijklmnopqrst ____________________", anApart(1, "abcdefghijklmnopqrst", "____________________")},
		{"shelf 0 1 2", aShelf(1, "", 0, 1, 2)},
		{"shelf 9223372036854775807 0 7", aShelf(1, "", most, 0, 7)},
		{"shelf 0 1 2 cold", aShelf(1, "cold", 0, 1, 2)},
		{"shelf 0 0 9223372036854775807 C_2-x", aShelf(1, "C_2-x", 0, 0, most)},
		{"robot 0 1 2 3", aRobot(1, 0, 1, 2, 3)},
		{"robot 1 0 9223372036854775807 9223372036854775807", aRobot(1, 1, 0, most, most)},
	}
}

func TestParseItems(t *testing.T) {
	for _, l := range itemLines() {
		for _, src := range []string{l.text, l.text + "\n", "\t" + l.text + " ", l.text + "\r\n", l.text + " # a", l.text + "#\n\n", strings.ReplaceAll(l.text, " ", " \t\r ")} {
			expectItems(t, src, l.item)
		}
		later, last := l.item, l.item
		later.Line, last.Line = 3, 5
		expectItems(t, "\n# a\n"+l.text+"\n \n"+l.text, later, last)
		expect(t, "deck\nrow \"a\"\n"+l.text+"\ndeck\n"+l.text+"\nrow \"b\"", api.Draft{Decks: [][]string{{"a"}, {"b"}}, Items: []api.Item{later, last}}, api.OK, 0)
	}
}

func TestParseAllItemsOfASource(t *testing.T) {
	var texts []string
	var items []api.Item
	for i, l := range itemLines() {
		l.item.Line = i + 1
		texts, items = append(texts, l.text), append(items, l.item)
	}
	expectItems(t, strings.Join(texts, "\n"), items...)
	expectItems(t, strings.Join(texts, "\n")+"\n", items...)
}

func TestWordsOfLinesAsNames(t *testing.T) {
	for _, w := range allWords() {
		expectItems(t, "zone "+w+" 0 0 0 0 0 0 0", aZone(1, w, 0, 0, 0, 0, 0, 0, 0))
		expectItems(t, "shift "+w+" 0 0\n", aShift(1, w, 0, 0))
		expectItems(t, "shelf 0 0 0 "+w, aShelf(1, w, 0, 0, 0))
		for _, v := range allWords() {
			expectItems(t, "apart "+w+" "+v, anApart(1, w, v))
		}
	}
}

// allWords returns the words with which lines begin, and those of directions.
func allWords() []string {
	return []string{"deck", "row", "zone", "shift", "oneway", "apart", "shelf", "robot", "east", "south", "west", "north", "up", "down"}
}

func TestItemsNeedNotMakeSense(t *testing.T) {
	expectItems(t, "zone a 9 5 5 1 1 0 7\nzone a 9 5 5 1 1 0 7\nshift b 5 1\napart c c\napart c c\nrobot 7 7 7 7\nrobot 7 7 7 7",
		aZone(1, "a", 9, 5, 5, 1, 1, 0, 7), aZone(2, "a", 9, 5, 5, 1, 1, 0, 7), aShift(3, "b", 5, 1), anApart(4, "c", "c"), anApart(5, "c", "c"), aRobot(6, 7, 7, 7, 7), aRobot(7, 7, 7, 7, 7))
	expectDecks(t, "deck\nrow \"x\"\nrow \"\"\ndeck\nrow \"??\"", []string{"x", ""}, []string{"??"})
}

// The rows of the chapter's examples.

func TestExamples(t *testing.T) {
	expect(t, "deck\nrow \"#.P\"\nzone a 0 1 0 2 0 1 0", api.Draft{Decks: [][]string{{"#.P"}}, Items: []api.Item{aZone(3, "a", 0, 1, 0, 2, 0, 1, 0)}}, api.OK, 0)
	expectItems(t, "oneway 0 1 1 south", aOneway(1, 0, 1, 1, 1))
	for _, src := range []string{`row "#"`, "shelf 0 1", "zone 5"} {
		expectError(t, src, api.ErrSyntax, 1)
	}
}
