package lex

import (
	"math/rand"
	"slices"
	"strings"
	"testing"

	"taquin/api"
)

func expectWritten(t *testing.T, want string, tokens ...api.Token) {
	t.Helper()
	if got := Write(tokens); got != want {
		t.Errorf("%s: %s instead of %s", brief(tokens), brief(got), brief(want))
	}
}

// P9.4: Write.

func TestWriteNothing(t *testing.T) {
	if Write(nil) != "" || Write([]api.Token{}) != "" {
		t.Error(Write(nil), Write([]api.Token{}))
	}
}

func TestWriteEachKind(t *testing.T) {
	expectWritten(t, "a ", aWord(1, "a"))
	expectWritten(t, "12 ", aNumber(1, 12, "12"))
	expectWritten(t, `"a" `, aText(1, "a"))
	expectWritten(t, "\n", anLF(1))
	expectWritten(t, "", anEnd(1))
	expectWritten(t, "zone cold-1 12 ", aWord(1, "zone"), aWord(1, "cold-1"), aNumber(1, 12, "12"), anEnd(1))
	expectWritten(t, "row \"##.P\" \n\n0 ", aWord(1, "row"), aText(1, "##.P"), anLF(1), anLF(2), aNumber(3, 0, "0"), anEnd(3))
	expectWritten(t, "\n\"\" a 1 \"\" \n", anLF(1), aText(2, ""), aWord(2, "a"), aNumber(2, 1, "1"), aText(2, ""), anLF(2), anEnd(3))
}

func TestWriteTexts(t *testing.T) {
	for s, want := range map[string]string{
		"": `""`, " ": `" "`, "a b": `"a b"`, `"`: `"\""`, `\`: `"\\"`, `\"`: `"\\\""`, `\\`: `"\\\\"`, `\n`: `"\\n"`, "\n": `"\n"`, "a\n\nb": `"a\n\nb"`, "\t\r": `"\x09\x0d"`, "\x00\x1f\x7f\x80\xff": `"\x00\x1f\x7f\x80\xff"`, "é": `"\xc3\xa9"`, "# a": `"# a"`, "01": `"01"`,
	} {
		expectWritten(t, want+" ", aText(1, s))
		expectWritten(t, "a "+want+" "+want+" \n", aWord(1, "a"), aText(1, s), aText(1, s), anLF(1))
	}
	all, want := "", ""
	for b := range 256 {
		all += one(b)
		want += quotedByte(b)
	}
	expectWritten(t, `"`+want+`" `, aText(1, all))
}

func TestWriteNothingForOtherKinds(t *testing.T) {
	for _, kind := range []int{api.TkEnd, api.TkKinds, 6, 7, 100, 256, 258, -1, -2, 1 << 32, 1<<32 + 1, 1 << 62, -1 << 63, 1<<63 - 1} {
		other := api.Token{Kind: kind, Text: "x", N: 3, Line: 1}
		expectWritten(t, "", other)
		expectWritten(t, "a 1 ", other, aWord(1, "a"), other, other, aNumber(1, 1, "1"), other)
		expectWritten(t, "\n\"b\" ", anLF(1), other, aText(1, "b"))
	}
}

func TestWriteWhatIsInNoSource(t *testing.T) {
	// The Text is written as it is, whatever the other fields are.
	expectWritten(t, "1a ", aWord(1, "1a"))
	expectWritten(t, " ", aWord(1, ""))
	expectWritten(t, " ", aNumber(1, 5, ""))
	expectWritten(t, "a b\n ", aWord(1, "a b\n"))
	expectWritten(t, "\"\\\xff ", aWord(1, "\"\\\xff"))
	expectWritten(t, "007 ", aNumber(1, 7, "007"))
	expectWritten(t, "12 ", aNumber(1, 13, "12"))
	expectWritten(t, "-1 ", aNumber(1, -1, "-1"))
	expectWritten(t, "a ", aNumber(1, 0, "a"))
	expectWritten(t, "a ", api.Token{Kind: api.TkWord, Text: "a", N: 5, Line: -7})
	expectWritten(t, `"a" `, api.Token{Kind: api.TkText, Text: "a", N: 5})
	expectWritten(t, "\n", api.Token{Kind: api.TkLine, Text: "a", N: 5, Line: 9})
	expectWritten(t, "a \nb \nc ", anEnd(1), aWord(9, "a"), anLF(0), aWord(-3, "b"), anLF(5), anEnd(1<<62), aWord(1, "c"))
	long := strings.Repeat("a", 100000)
	expectWritten(t, strings.Repeat(long+" ", 20), slices.Repeat([]api.Token{aWord(1, long)}, 20)...)
}

// P9.6: Lex of Write of the tokens of a source are these tokens.

// checkAgain checks this for a source without errors, if Write returns a source that is not too long.
func checkAgain(t *testing.T, src string) {
	t.Helper()
	tokens, err, _ := Lex(src)
	if err != api.OK {
		return
	}
	written := Write(tokens)
	if len(written) > api.MaxSource {
		expectError(t, written, api.ErrFull, 0)
		return
	}
	expectTokens(t, written, tokens...)
	if again := Write(tokens); again != written {
		t.Errorf("%s: %s", brief(written), brief(again))
	}
}

func TestLexOfWrite(t *testing.T) {
	for _, src := range sources() {
		if _, err, _ := Lex(src); err != api.OK {
			t.Error(brief(src), err)
		}
		checkAgain(t, src)
	}
	each("a1\"\\\n #-", 6, func(s string) { checkAgain(t, s) })
}

func TestLexOfWriteThatIsTooLong(t *testing.T) {
	tokens, err, _ := Lex(strings.Repeat("a\n", 9998) + `"xx"`)
	if written := Write(tokens); err != api.OK || len(written) != 29999 {
		t.Error(err, len(written))
	}
	// With a space, this has just as many bytes as a source may have.
	src := `"` + strings.Repeat(`\"`, 9998) + `"`
	expectTokens(t, Write([]api.Token{aText(1, strings.Repeat(`"`, 9998))}), aText(1, strings.Repeat(`"`, 9998)), anEnd(1))
	checkAgain(t, src)
	expectError(t, Write([]api.Token{aText(1, strings.Repeat(`"`, 9998)), anLF(1), anLF(2)}), api.ErrFull, 0)
}

func TestWhiteBytesAndCommentsChangeNothing(t *testing.T) {
	rnd := rand.New(rand.NewSource(11))
	for _, src := range sources() {
		tokens, _, _ := Lex(src)
		for range 20 {
			blown := spread(tokens, rnd)
			if len(blown) <= api.MaxSource {
				expectTokens(t, blown, tokens...)
			}
		}
	}
}

// spread writes tokens with white bytes between them, and comments at the ends of lines.
func spread(tokens []api.Token, rnd *rand.Rand) string {
	var out strings.Builder
	for _, token := range tokens {
		for range rnd.Intn(4) {
			out.WriteByte(" \t\r"[rnd.Intn(3)])
		}
		if (token.Kind == api.TkLine || token.Kind == api.TkEnd) && rnd.Intn(2) == 0 {
			out.WriteString("#")
			for range rnd.Intn(5) {
				out.WriteString([]string{"a", "#", `"`, `\`, " ", "01", "\xff", "\x00", "-", "\r"}[rnd.Intn(10)])
			}
		}
		out.WriteString(Write([]api.Token{token}))
	}
	return out.String()
}

// P9.7: two sources with an LF between them.

// checkJoined checks this for two sources. An error of the first one comes first, and one of the second one later on.
func checkJoined(t *testing.T, a, b string) {
	t.Helper()
	both := a + "\n" + b
	tokens, err, line := Lex(a)
	more, err2, line2 := Lex(b)
	if len(both) > api.MaxSource {
		expectError(t, both, api.ErrFull, 0)
		return
	}
	if err != api.OK {
		expectError(t, both, err, line)
		return
	}
	last := len(tokens) - 1
	lines := tokens[last].Line
	if err2 != api.OK {
		expectError(t, both, err2, line2+lines)
		return
	}
	tokens[last].Kind = api.TkLine
	for _, token := range more {
		token.Line += lines
		tokens = append(tokens, token)
	}
	expectTokens(t, both, tokens...)
}

func TestTwoSources(t *testing.T) {
	expectTokens(t, "a # b"+"\n"+"c", aWord(1, "a"), anLF(1), aWord(2, "c"), anEnd(2))
	l := sources()
	for src := range wrong {
		l = append(l, src, "a\n"+src+"\nb\n", "\n\n"+src)
	}
	l = append(l, `"a`, "a \"b\nc", "\n\"\n\"", `"\`)
	for _, a := range l {
		for _, b := range l {
			checkJoined(t, a, b)
		}
	}
	each("a0\"\\\n#", 3, func(a string) {
		each("a0\"\\\n#", 3, func(b string) { checkJoined(t, a, b) })
	})
}
