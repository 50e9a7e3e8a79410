package lex

import (
	"strings"

	"taquin/api"
	"taquin/text"
)

// reader reads tokens.
type reader struct {
	rest string // what has not been read
	line int    // the line on which the rest begins
}

// take returns the next n bytes, and moves the reader behind them.
func (r *reader) take(n int) string {
	s := r.rest[:n]
	r.rest = r.rest[n:]
	return s
}

// skipBlank moves the reader behind white bytes and a comment, behind which there is always an LF or the end.
func (r *reader) skipBlank() {
	r.rest = strings.TrimLeft(r.rest, white)
	if !strings.HasPrefix(r.rest, "#") {
		return
	}
	size := strings.IndexByte(r.rest, '\n')
	if size < 0 {
		size = len(r.rest)
	}
	r.take(size)
}

// lineFeed reads an LF.
func (r *reader) lineFeed() (api.Token, api.Errno) {
	token := api.Token{Kind: api.TkLine, Line: r.line}
	r.take(1)
	r.line++
	return token, api.OK
}

// text reads what begins with a quotation mark. As there is no LF in a quoted string, the line stays.
func (r *reader) text() (api.Token, api.Errno) {
	contents, ok := text.Unquote(r.take(textSize(r.rest)))
	if !ok {
		return api.Token{}, api.ErrSyntax
	}
	return api.Token{Kind: api.TkText, Text: contents, Line: r.line}, api.OK
}

// textSize returns how many bytes belong to the text with which s begins; all, if it does not end: all is then no quoted string either.
func textSize(s string) int {
	odd := false // whether there is an odd number of backslashes before the byte
	for i := 1; i < len(s); i++ {
		if s[i] == '"' && !odd {
			return i + 1
		}
		odd = s[i] == '\\' && !odd
	}
	return len(s)
}

// wordOrNumber reads what begins with a byte of a word or a number.
func (r *reader) wordOrNumber() (api.Token, api.Errno) {
	s := r.take(len(r.rest) - len(strings.TrimLeft(r.rest, later)))
	if Word(s) {
		return api.Token{Kind: api.TkWord, Text: s, Line: r.line}, api.OK
	}
	if n, ok := text.Int(s); ok {
		return api.Token{Kind: api.TkNumber, Text: s, N: n, Line: r.line}, api.OK
	}
	if s[0] != '0' && strings.TrimLeft(s, digits) == "" {
		return api.Token{}, api.ErrRange
	}
	return api.Token{}, api.ErrSyntax
}
