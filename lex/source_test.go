package lex

import (
	"math"
	"strings"
	"testing"

	"taquin/api"
)

// P9.2: the tokens of sources.

func TestSourcesWithoutTokens(t *testing.T) {
	for _, src := range []string{
		"", " ", "\t", "\r", " \t\r \r\t ", strings.Repeat(" ", 20000), strings.Repeat("\t\r", 10000),
		"#", "##", "# ", " #", "\t\r #", "# a comment", "#a \"b\" 01 -1 \\", `#"`, `# "a`, "#\r", "#\t#\r#", "#\x00\xff\x7f", "#é", "#" + strings.Repeat("#", 19999),
	} {
		expectTokens(t, src, anEnd(1))
	}
}

func TestLineFeeds(t *testing.T) {
	expectTokens(t, "\n", anLF(1), anEnd(2))
	expectTokens(t, "\n\n\n", anLF(1), anLF(2), anLF(3), anEnd(4))
	expectTokens(t, " \n\t\n\r", anLF(1), anLF(2), anEnd(3))
	expectTokens(t, "\r\n\r\n", anLF(1), anLF(2), anEnd(3))
	expectTokens(t, "\n a", anLF(1), aWord(2, "a"), anEnd(2))
	expectTokens(t, "a\n", aWord(1, "a"), anLF(1), anEnd(2))
	expectTokens(t, "a\nb\n", aWord(1, "a"), anLF(1), aWord(2, "b"), anLF(2), anEnd(3))
	expectTokens(t, "1\n\"2\"\n\nb", aNumber(1, 1, "1"), anLF(1), aText(2, "2"), anLF(2), anLF(3), aWord(4, "b"), anEnd(4))
	var many []api.Token
	for i := range 20000 {
		many = append(many, anLF(i+1))
	}
	expectTokens(t, strings.Repeat("\n", 20000), append(many, anEnd(20001))...)
}

func TestComments(t *testing.T) {
	expectTokens(t, "# a\nb", anLF(1), aWord(2, "b"), anEnd(2))
	expectTokens(t, "#\nb", anLF(1), aWord(2, "b"), anEnd(2))
	expectTokens(t, "#\n", anLF(1), anEnd(2))
	expectTokens(t, "#\n#\n#", anLF(1), anLF(2), anEnd(3))
	expectTokens(t, "#\n\n#\n", anLF(1), anLF(2), anLF(3), anEnd(4))
	expectTokens(t, " # a # b\n c # d", anLF(1), aWord(2, "c"), anEnd(2))
	expectTokens(t, "a # b", aWord(1, "a"), anEnd(1))
	expectTokens(t, "a#b", aWord(1, "a"), anEnd(1))
	expectTokens(t, "a # b\n", aWord(1, "a"), anLF(1), anEnd(2))
	expectTokens(t, "12#", aNumber(1, 12, "12"), anEnd(1))
	expectTokens(t, `"a"#"b"`, aText(1, "a"), anEnd(1))
	expectTokens(t, "a # b\nc # d\n", aWord(1, "a"), anLF(1), aWord(2, "c"), anLF(2), anEnd(3))
}

func TestQuotationMarksInComments(t *testing.T) {
	expectTokens(t, `# "a" "`, anEnd(1))
	expectTokens(t, "#\"\na", anLF(1), aWord(2, "a"), anEnd(2))
	expectTokens(t, "# \"b\n\"c\" # d\"\n", anLF(1), aText(2, "c"), anLF(2), anEnd(3))
	expectTokens(t, "a # \\\"\n# \\\nb", aWord(1, "a"), anLF(1), anLF(2), aWord(3, "b"), anEnd(3))
	expectTokens(t, `"#"`, aText(1, "#"), anEnd(1))
	expectTokens(t, `"# a" # "b"`, aText(1, "# a"), anEnd(1))
	expectTokens(t, "\"a#\"b\n", aText(1, "a#"), aWord(1, "b"), anLF(1), anEnd(2))
}

func TestWordsInSources(t *testing.T) {
	for _, s := range []string{
		"a", "Z", "_", "zone", "cold-1", "a-", "a--", "_0-", "aB3_-x", "a-1", "a_1", "_1", "__", "deck", "up",
		"abcdefghijklmnopqrst", "____________________", "_-------------------", "Z1234567890123456789",
	} {
		expectTokens(t, s, aWord(1, s), anEnd(1))
		expectTokens(t, " "+s+"\t", aWord(1, s), anEnd(1))
		expectTokens(t, s+" "+s+"\r"+s, aWord(1, s), aWord(1, s), aWord(1, s), anEnd(1))
	}
}

func TestNumbersInSources(t *testing.T) {
	for s, n := range map[string]int{
		"0": 0, "1": 1, "7": 7, "9": 9, "10": 10, "12": 12, "100": 100, "4096": 4096, "20000": 20000, "1000000": 1000000, "1234567890": 1234567890,
		"9223372036854775806": math.MaxInt - 1, "9223372036854775807": math.MaxInt, "999999999999999999": 999999999999999999, "1000000000000000000": 1000000000000000000, "9000000000000000000": 9000000000000000000,
	} {
		expectTokens(t, s, aNumber(1, n, s), anEnd(1))
		expectTokens(t, "\n "+s+"#", anLF(1), aNumber(2, n, s), anEnd(2))
		expectTokens(t, s+" "+s, aNumber(1, n, s), aNumber(1, n, s), anEnd(1))
	}
}

func TestTextsInSources(t *testing.T) {
	for s, want := range map[string]string{
		`""`: "", `"a"`: "a", `" "`: " ", `" a  b "`: " a  b ", `"##.P"`: "##.P", `"01 -1"`: "01 -1",
		`"\""`: `"`, `"\"\""`: `""`, `"a\"b"`: `a"b`, `"\\"`: `\`, `"\\\\"`: `\\`, `"\\\""`: `\"`, `"\\\\\""`: `\\"`, `"\"\\"`: `"\`,
		`"\n"`: "\n", `"a\nb"`: "a\nb", `"\\n"`: `\n`, `"\\x00"`: `\x00`, `"\x00"`: "\x00", `"\x09\x0d"`: "\t\r", `"\xc3\xa9"`: "é", `"\xff\x80"`: "\xff\x80",
		`"~!'#[]{}"`: "~!'#[]{}",
	} {
		expectTokens(t, s, aText(1, want), anEnd(1))
		expectTokens(t, "\n"+s+"\n", anLF(1), aText(2, want), anLF(2), anEnd(3))
		expectTokens(t, s+s+" "+s, aText(1, want), aText(1, want), aText(1, want), anEnd(1))
	}
	long := strings.Repeat("x", 19998)
	expectTokens(t, `"`+long+`"`, aText(1, long), anEnd(1))
}

func TestBackslashesAheadOfAQuotationMark(t *testing.T) {
	for n := range 50 {
		src := `"a` + strings.Repeat(`\`, n) + `" "b`
		if n%2 == 0 {
			contents := "a" + strings.Repeat(`\`, n/2)
			expectError(t, src, api.ErrSyntax, 1) // in the second one
			expectTokens(t, src+`"`, aText(1, contents), aText(1, "b"), anEnd(1))
		} else {
			contents := "a" + strings.Repeat(`\`, n/2) + `" `
			expectTokens(t, src, aText(1, contents), aWord(1, "b"), anEnd(1))
			expectError(t, src+`"`, api.ErrSyntax, 1) // in the second one
		}
	}
	expectTokens(t, `"\\"`+"\n", aText(1, `\`), anLF(1), anEnd(2))
	expectTokens(t, `"`+strings.Repeat(`\\`, 9999)+`"`, aText(1, strings.Repeat(`\`, 9999)), anEnd(1))
	expectError(t, `"`+strings.Repeat(`\\`, 9998)+`\"`, api.ErrSyntax, 1)
}

func TestTokensWithoutWhiteBytesBetween(t *testing.T) {
	expectTokens(t, `a"b"c`, aWord(1, "a"), aText(1, "b"), aWord(1, "c"), anEnd(1))
	expectTokens(t, `12"b"34`, aNumber(1, 12, "12"), aText(1, "b"), aNumber(1, 34, "34"), anEnd(1))
	expectTokens(t, `"a""b"`, aText(1, "a"), aText(1, "b"), anEnd(1))
	expectTokens(t, `"""\"""a"`, aText(1, ""), aText(1, `"`), aText(1, "a"), anEnd(1))
	expectTokens(t, "a\n1\n\"\"\nb", aWord(1, "a"), anLF(1), aNumber(2, 1, "1"), anLF(2), aText(3, ""), anLF(3), aWord(4, "b"), anEnd(4))
	expectTokens(t, `a-"b"_1#`, aWord(1, "a-"), aText(1, "b"), aWord(1, "_1"), anEnd(1))
	expectTokens(t, `0"0"0`, aNumber(1, 0, "0"), aText(1, "0"), aNumber(1, 0, "0"), anEnd(1))
	expectTokens(t, "a\tb\rc d", aWord(1, "a"), aWord(1, "b"), aWord(1, "c"), aWord(1, "d"), anEnd(1))
	expectTokens(t, "a1 1", aWord(1, "a1"), aNumber(1, 1, "1"), anEnd(1))
}

func TestLinesOfTokens(t *testing.T) {
	expectTokens(t, "a b\n\n1 2 # x\n\"\\n\\n\" \"c\"\n # \"\n\n  z",
		aWord(1, "a"), aWord(1, "b"), anLF(1),
		anLF(2),
		aNumber(3, 1, "1"), aNumber(3, 2, "2"), anLF(3),
		aText(4, "\n\n"), aText(4, "c"), anLF(4),
		anLF(5),
		anLF(6),
		aWord(7, "z"), anEnd(7))
	expectTokens(t, "\n\n", anLF(1), anLF(2), anEnd(3))
	expectTokens(t, "\n\n# x", anLF(1), anLF(2), anEnd(3))
	expectTokens(t, "\n\n# x\n", anLF(1), anLF(2), anLF(3), anEnd(4))
	expectTokens(t, "a # x\n \t", aWord(1, "a"), anLF(1), anEnd(2))
	// Only LFs end a line.
	expectTokens(t, "a\rb\r\nc", aWord(1, "a"), aWord(1, "b"), anLF(1), aWord(2, "c"), anEnd(2))
	expectTokens(t, "#\v\f\u0085\u2028\nc", anLF(1), aWord(2, "c"), anEnd(2))
}

func TestSourcesOfTheGreatestLength(t *testing.T) {
	word := strings.Repeat("w", 19) + " "
	var tokens []api.Token
	for range 1000 {
		tokens = append(tokens, aWord(1, word[:19]))
	}
	tokens = append(tokens, anEnd(1))
	longest := strings.Repeat(word, 1000)
	expectTokens(t, longest, tokens...)
	expectError(t, longest+" ", api.ErrFull, 0)
	tokens = nil
	for i := range 10000 {
		tokens = append(tokens, aNumber(i+1, i%10, one('0'+i%10)), anLF(i+1))
	}
	expectTokens(t, strings.Repeat("0\n1\n2\n3\n4\n5\n6\n7\n8\n9\n", 1000), append(tokens, anEnd(10001))...)
	tokens = nil
	for range 10000 {
		tokens = append(tokens, aText(1, ""))
	}
	expectTokens(t, strings.Repeat(`""`, 10000), append(tokens, anEnd(1))...)
}
