package lex

import (
	"fmt"
	"slices"
	"testing"

	"taquin/api"
)

// P9.5: nothing that was passed in is changed, and nothing that was returned is kept.

// manySources are sources with errors and without.
func manySources() []string {
	l := append(sources(), pieces()...)
	for src := range wrong {
		l = append(l, src, "a 1 \"b\"\n"+src)
	}
	slices.Sort(l)
	return l
}

// callAll calls all functions, and writes down what they return.
func callAll(src string) string {
	tokens, err, line := Lex(src)
	return fmt.Sprintf("%t %#v %d %d %q", Word(src), tokens, err, line, Write(tokens))
}

func TestTheSameAgain(t *testing.T) {
	l := manySources()
	var before []string
	for _, src := range l {
		before = append(before, callAll(src))
	}
	slices.Reverse(before)
	slices.Reverse(l)
	for i, src := range l {
		if callAll(src) != before[i] {
			t.Error(brief(src))
		}
	}
}

// spoil changes all elements of a list, also those behind its end.
func spoil(l []api.Token) {
	l = l[:cap(l)]
	for i := range l {
		l[i] = api.Token{Kind: api.TkText, Text: "spoiled", N: -7, Line: -7}
	}
}

func TestTokensAreFresh(t *testing.T) {
	for _, src := range manySources() {
		a, err, line := Lex(src)
		want := slices.Clone(a)
		b, _, _ := Lex(src)
		spoil(a)
		if !slices.Equal(b, want) {
			t.Errorf("%s: %s", brief(src), brief(b))
		}
		expect(t, src, want, err, line)
	}
}

func TestWriteLeavesItsArgument(t *testing.T) {
	for _, src := range sources() {
		tokens, _, _ := Lex(src)
		// Behind the end there is memory, which nobody may read or write.
		tokens = append(tokens, api.Token{Kind: 77, N: 5}, aText(3, "\x00\n"), aNumber(4, 5, "6"))
		behind := append(slices.Clone(tokens), aWord(1, "behind"), anLF(2), aText(3, "end"))
		want := slices.Clone(behind)
		written := Write(behind[:len(tokens)])
		if written != Write(slices.Clip(tokens)) {
			t.Errorf("%s: %s", brief(src), brief(written))
		}
		if !slices.Equal(behind, want) {
			t.Errorf("%s: %s", brief(src), brief(behind))
		}
		spoil(behind)
		if written != Write(want[:len(tokens)]) {
			t.Errorf("%s: %s", brief(src), brief(written))
		}
	}
}
