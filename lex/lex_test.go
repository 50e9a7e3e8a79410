package lex

import (
	"fmt"
	"regexp"
	"slices"
	"strings"
	"testing"

	"taquin/api"
)

// each calls check for every string of at most n bytes of the alphabet.
func each(alphabet string, n int, check func(s string)) {
	buf := make([]byte, 0, n)
	var extend func()
	extend = func() {
		check(string(buf))
		if len(buf) == n {
			return
		}
		for i := range len(alphabet) {
			buf = append(buf, alphabet[i])
			extend()
			buf = buf[:len(buf)-1]
		}
	}
	extend()
}

func TestEach(t *testing.T) {
	var l []string
	each("ab", 2, func(s string) { l = append(l, s) })
	if !slices.Equal(l, []string{"", "a", "aa", "ab", "b", "ba", "bb"}) {
		t.Errorf("%q", l)
	}
}

// one returns the string of one byte.
func one(b int) string {
	return string([]byte{byte(b)})
}

// brief writes anything, for messages, but not more than the beginning of something long.
func brief(v any) string {
	s := fmt.Sprintf("%#v", v)
	return s[:min(len(s), 400)]
}

func aWord(line int, s string) api.Token {
	return api.Token{Kind: api.TkWord, Text: s, Line: line}
}

func aNumber(line, n int, s string) api.Token {
	return api.Token{Kind: api.TkNumber, Text: s, N: n, Line: line}
}

func aText(line int, s string) api.Token {
	return api.Token{Kind: api.TkText, Text: s, Line: line}
}

func anLF(line int) api.Token {
	return api.Token{Kind: api.TkLine, Line: line}
}

func anEnd(line int) api.Token {
	return api.Token{Kind: api.TkEnd, Line: line}
}

// expect checks everything that Lex returns.
func expect(t *testing.T, src string, tokens []api.Token, err api.Errno, line int) {
	t.Helper()
	gotTokens, gotErr, gotLine := Lex(src)
	if gotErr != err || gotLine != line || !slices.Equal(gotTokens, tokens) {
		t.Errorf("%s: %s, %d, %d instead of %s, %d, %d", brief(src), brief(gotTokens), gotErr, gotLine, brief(tokens), err, line)
	}
}

func expectTokens(t *testing.T, src string, want ...api.Token) {
	t.Helper()
	expect(t, src, want, api.OK, 0)
}

func expectError(t *testing.T, src string, err api.Errno, line int) {
	t.Helper()
	expect(t, src, nil, err, line)
}

// P9.1: words.

func TestWords(t *testing.T) {
	for _, s := range []string{
		"a", "z", "A", "Z", "_", "m", "M", "ab", "zone", "cold-1", "a-", "a_", "a0", "a9", "a-b", "a--", "_0", "_-", "__", "_a", "A-Z_a-z-0-9", "up", "aB3-_", "x1y2z3",
		"abcdefghijklmnopqrs", "abcdefghijklmnopqrst", "____________________", "a-------------------", "Z1234567890123456789",
	} {
		if !Word(s) {
			t.Errorf("%q", s)
		}
	}
}

func TestWhatIsNoWord(t *testing.T) {
	for _, s := range []string{
		"", "0", "9", "12", "1a", "0_", "9-", "-", "-a", "-1", "--", "-_",
		" ", " a", "a ", "a b", "\ta", "a\t", "a\n", "\na", "a\nb", "a\r", "\x00", "a\x00", "\x00a", "a\x00b",
		"a.b", "a,", "a/b", "a:", "a@", "a[", "a`", "a{", "@a", "[a", "`a", "{a", "a+b", "a=b", "a#", "#a", `"`, `"a"`, `a"`, `a\`, "a'", "a*", "a?", "a~", "a\x7f",
		"é", "aé", "éa", "ª", "aª", "ä", "а", "aа", "١", "a١", "a²", "a–b", "a\u00adb", "\xff", "a\xff", "\x80a", "a\xe1", "\u212a", "\u017f",
		"abcdefghijklmnopqrstu", "_____________________", "a--------------------", strings.Repeat("a", 22), strings.Repeat("a", 256), strings.Repeat("a", 276), strings.Repeat("a", 20000), strings.Repeat("a", 100000),
		"abcdefghijklmnopqrs ", "abcdefghijklmnopqrs\xff", "1bcdefghijklmnopqrst",
	} {
		if Word(s) {
			t.Errorf("%s", brief(s))
		}
	}
}

func TestWordsOfEachLength(t *testing.T) {
	for n := range 300 {
		if got, want := Word(strings.Repeat("w", n)), 1 <= n && n <= 20; got != want {
			t.Error(n, got)
		}
		if got, want := Word("_"+strings.Repeat("-", n)), n <= 19; got != want {
			t.Error(n+1, got)
		}
	}
}

func TestEachByteInAWord(t *testing.T) {
	for b := range 256 {
		begins := 'a' <= b && b <= 'z' || 'A' <= b && b <= 'Z' || b == '_'
		follows := begins || '0' <= b && b <= '9' || b == '-'
		s := one(b)
		for _, c := range []struct {
			s    string
			want bool
		}{
			{s, begins}, {s + "a", begins}, {s + "0-_Z", begins}, {s + strings.Repeat("a", 19), begins}, {s + strings.Repeat("a", 20), false},
			{"a" + s, follows}, {"_" + s + "a", follows}, {"a0" + s + "-", follows}, {strings.Repeat("a", 19) + s, follows}, {strings.Repeat("a", 20) + s, false},
			{"0" + s, false}, {"-" + s, false},
		} {
			if got := Word(c.s); got != c.want {
				t.Errorf("%q: %t", c.s, got)
			}
		}
	}
}

var words = regexp.MustCompile(`\A[a-zA-Z_][a-zA-Z0-9_-]{0,19}\z`)

func TestWordOfShortStrings(t *testing.T) {
	check := func(s string) {
		if got := Word(s); got != words.MatchString(s) {
			t.Errorf("%s: %t", brief(s), got)
		}
	}
	each("azAZ09_- \n\"#@[`{/:\x00\xe1", 4, check)
	each("a0-", 6, func(s string) {
		check(s + strings.Repeat("b", 14))
		check(s + strings.Repeat("b", 15))
		check("_" + strings.Repeat("-", 14) + s)
	})
}

// The rows of the chapter's examples.

func TestExamples(t *testing.T) {
	expectTokens(t, "zone cold-1 12 # c", aWord(1, "zone"), aWord(1, "cold-1"), aNumber(1, 12, "12"), anEnd(1))
	expectTokens(t, `row "##.P"`, aWord(1, "row"), aText(1, "##.P"), anEnd(1))
	for _, src := range []string{"01", "1a", "-1", `"a`} {
		expectError(t, src, api.ErrSyntax, 1)
	}
}
