package lex

import (
	"strings"
	"testing"

	"taquin/api"
)

// P9.3: errors, and their lines.

func TestSourcesThatAreTooLong(t *testing.T) {
	expectTokens(t, strings.Repeat(" ", 20000), anEnd(1))
	for _, src := range []string{
		strings.Repeat(" ", 20001), strings.Repeat("#", 20001), strings.Repeat("\n", 20001), strings.Repeat("a", 20001), strings.Repeat("1", 20001), strings.Repeat("0", 20001), strings.Repeat("-", 20001), strings.Repeat(`"`, 20001), strings.Repeat("\xff", 20001),
		"01" + strings.Repeat(" ", 19999), "\n-" + strings.Repeat(" ", 19999), strings.Repeat(" ", 20000) + "-", strings.Repeat("a b\n", 1000000),
		strings.Repeat("é", 10000) + " ", strings.Repeat(" ", 20002), strings.Repeat(" ", 40000), strings.Repeat(" ", 65536), strings.Repeat(" ", 65537),
	} {
		expectError(t, src, api.ErrFull, 0)
	}
}

func TestErrorsInSourcesOfTheGreatestLength(t *testing.T) {
	expectError(t, strings.Repeat(" ", 19999)+"-", api.ErrSyntax, 1)
	expectError(t, strings.Repeat("\n", 19999)+"-", api.ErrSyntax, 20000)
	expectError(t, strings.Repeat("\n", 19999)+`"`, api.ErrSyntax, 20000)
	expectError(t, strings.Repeat("\n", 19998)+"00", api.ErrSyntax, 19999)
	expectError(t, strings.Repeat("a", 20000), api.ErrSyntax, 1)
	expectError(t, strings.Repeat("0", 20000), api.ErrSyntax, 1)
	expectError(t, strings.Repeat("1", 20000), api.ErrRange, 1)
	expectError(t, strings.Repeat("\xff", 20000), api.ErrSyntax, 1)
	expectError(t, `"`+strings.Repeat("\n", 19999), api.ErrSyntax, 1)
	expectError(t, `"`+strings.Repeat("\n", 19998)+`"`, api.ErrSyntax, 1)
	expectError(t, `"`+strings.Repeat("x", 19999), api.ErrSyntax, 1)
	expectError(t, `"`+strings.Repeat(`\`, 19999), api.ErrSyntax, 1)
}

// nothings are bytes at which nothing begins.
func nothings() []string {
	var l []string
	for b := range 256 {
		letter := 'a' <= b && b <= 'z' || 'A' <= b && b <= 'Z'
		if !letter && (b < '0' || b > '9') && !strings.Contains("_\" \t\r\n#", one(b)) {
			l = append(l, one(b))
		}
	}
	return l
}

func TestBytesAtWhichNothingBegins(t *testing.T) {
	l := nothings()
	if len(l) != 256-52-10-7 || l[0] != "\x00" || l[len(l)-1] != "\xff" {
		t.Error(len(l))
	}
	for _, b := range l {
		for _, src := range []string{b, " " + b, b + " ", b + b, b + "a", b + "1", b + `"a"`, b + "\n", "a " + b, "1 " + b + "\n", `"a"` + b, b + "#", "\t\r" + b + "\nb\n", b + "01", b + " 9999999999999999999", b + `"`, b + "\n-"} {
			expectError(t, src, api.ErrSyntax, 1)
		}
		expectError(t, "\n"+b, api.ErrSyntax, 2)
		expectError(t, "a 1 \"b\" # c\n # \n\n\t"+b+" x\n\n", api.ErrSyntax, 4)
		if b != "-" { // which would belong to the word, or to the number
			expectError(t, "a"+b, api.ErrSyntax, 1)
			expectError(t, "1"+b, api.ErrSyntax, 1)
			expectError(t, "0"+b, api.ErrSyntax, 1)
		}
		// In a comment anything may stand.
		expectTokens(t, "a #"+b+"\n#"+b, aWord(1, "a"), anLF(1), anEnd(2))
	}
}

func TestHyphens(t *testing.T) {
	for _, src := range []string{"-", " - ", "--", "-1", "-0", "-a", "a -", "a -1", "1 -2", "-_", `-"a"`, `"a"-`, "-9223372036854775808", "1-", "1-2", "0-", "0-1", "1--"} {
		expectError(t, src, api.ErrSyntax, 1)
		expectError(t, "\n\n"+src+"\n", api.ErrSyntax, 3)
	}
	expectTokens(t, "a- b--1 #-", aWord(1, "a-"), aWord(1, "b--1"), anEnd(1))
}

func TestTextsThatDoNotEnd(t *testing.T) {
	for _, src := range []string{
		`"`, `"a`, `" `, `"a b`, `"#`, `"\`, `"\\`, `"\"`, `"a\"`, `"\\\"`, `"\"\"`, `"a\\\"b`, `"""`, `"a" "`, `"a""b`, `a"`, `1"`, `a "b`, `"\"a\"`, `"\\\\\"`,
	} {
		expectError(t, src, api.ErrSyntax, 1)
		expectError(t, src+"\n", api.ErrSyntax, 1)
		expectError(t, src+"\n\n a 1\n", api.ErrSyntax, 1)
		expectError(t, "x\n\n"+src, api.ErrSyntax, 3)
		expectError(t, "# \"\n"+src+"\n", api.ErrSyntax, 2)
	}
}

func TestTextsThatAreNoQuotedStrings(t *testing.T) {
	for _, src := range []string{
		"\"\n\"", "\"a\nb\"", "\"a\n\"", "\"\na\"", "\"\n\n\n\"", "\"\\\n\"", "\"\t\"", "\"\r\"", "\"\x00\"", "\"\x7f\"", "\"é\"", "\"\xff\"",
		`"\a"`, `"\t"`, `"\0"`, `"\N"`, `"\ "`, `"\'"`, `"\x"`, `"\x0"`, `"\xC8"`, `"\xG0"`, `"\x41"`, `"\x20"`, `"\x22"`, `"\x5c"`, `"\x0a"`, `"\x7e"`, `"\X00"`, `"\u00e9"`, `"\x\"`, `"\x\""`, `"\\\"\a"`,
	} {
		expectError(t, src, api.ErrSyntax, 1)
		expectError(t, src+"\n", api.ErrSyntax, 1)
		expectError(t, "a\n"+src+"b", api.ErrSyntax, 2)
		expectError(t, "\n\n\n"+src+"\n\n", api.ErrSyntax, 4)
	}
	// The text goes up to the next quotation mark, over LFs and what would be a comment.
	expectError(t, "\"a # \n\" 01", api.ErrSyntax, 1)
	expectError(t, "\n\"#\n\n\"\n99999999999999999999", api.ErrSyntax, 2)
}

func TestEachByteInAText(t *testing.T) {
	for b := range 256 {
		s := one(b)
		switch {
		case b == '"' || b == '\\':
			expectError(t, `"a`+s+`"`, api.ErrSyntax, 1)
			expectTokens(t, `"a\`+s+`"`, aText(1, "a"+s), anEnd(1))
		case 32 <= b && b <= 126:
			expectTokens(t, `"a`+s+`"`, aText(1, "a"+s), anEnd(1))
		default:
			expectError(t, `"a`+s+`"`, api.ErrSyntax, 1)
		}
	}
}

func TestLeadingZeros(t *testing.T) {
	for _, src := range []string{"00", "01", "000", "007", "0123456789", "09223372036854775807", "09223372036854775808", "00000000000000000000", "099999999999999999999", strings.Repeat("0", 1000), "0" + strings.Repeat("9", 1000)} {
		expectError(t, src, api.ErrSyntax, 1)
		expectError(t, "a 0\n1 "+src+" 2\n", api.ErrSyntax, 2)
		expectError(t, src+`"a"`, api.ErrSyntax, 1)
	}
}

func TestNumbersThatAreTooGreat(t *testing.T) {
	for _, src := range []string{
		"9223372036854775808", "9223372036854775809", "9223372036854775810", "9999999999999999999", "10000000000000000000", "12345678901234567890",
		// What is an int after a wraparound:
		"18446744073709551615", "18446744073709551616", "18446744073709551617", "27670116110564327423", "36893488147419103233", "184467440737095516160", "340282366920938463463374607431768211456",
		strings.Repeat("1", 1000), "1" + strings.Repeat("0", 1000), strings.Repeat("9", 20000),
	} {
		expectError(t, src, api.ErrRange, 1)
		if len(src) < 19000 {
			expectError(t, "\n0 9223372036854775807 "+src+"\n", api.ErrRange, 2)
			expectError(t, src+"#", api.ErrRange, 1)
			expectError(t, src+`"`, api.ErrRange, 1)
			expectError(t, src+"-", api.ErrSyntax, 1)
			expectError(t, src+"a", api.ErrSyntax, 1)
			expectError(t, src+"_", api.ErrSyntax, 1)
		}
	}
}

func TestWhatIsNeitherAWordNorANumber(t *testing.T) {
	for _, src := range []string{
		"1a", "1_", "1-", "0a", "0x1", "0_", "0-", "9z9", "1a1", "12-3", "1e3", "00a", "01-", "9223372036854775807a", "9223372036854775808a", "99999999999999999999-", "1_000", "0123456789abcdefghij",
		"abcdefghijklmnopqrstu", "_____________________", "a1234567890123456789-", "a--------------------", strings.Repeat("a", 22), strings.Repeat("Z", 1000), "1" + strings.Repeat("a", 30), "a" + strings.Repeat("1", 30),
	} {
		expectError(t, src, api.ErrSyntax, 1)
		expectError(t, " \n"+src+" a", api.ErrSyntax, 2)
		expectError(t, "b "+src+"\n", api.ErrSyntax, 1)
		expectError(t, src+`"a"`, api.ErrSyntax, 1)
	}
}

// wrong are sources without LFs that have one error each, and what it is.
var wrong = map[string]api.Errno{
	"-": api.ErrSyntax, "\x00": api.ErrSyntax, "\xff": api.ErrSyntax, ".": api.ErrSyntax,
	`"a\tb"`: api.ErrSyntax, "\"\t\"": api.ErrSyntax,
	"1a": api.ErrSyntax, "abcdefghijklmnopqrstu": api.ErrSyntax,
	"00": api.ErrSyntax, "012": api.ErrSyntax,
	"9223372036854775808": api.ErrRange, "99999999999999999999": api.ErrRange,
}

func TestTheFirstOfTwoErrors(t *testing.T) {
	for a, err := range wrong {
		expectError(t, a, err, 1)
		for b := range wrong {
			expectError(t, a+" "+b, err, 1)
			expectError(t, a+"\n"+b, err, 1)
			expectError(t, "x\n\n"+a+" y 1 "+b+"\n", err, 3)
			expectError(t, "x\n"+a+"\n\n z\n"+b, err, 2)
			expectError(t, "# "+b+"\n\n"+a, err, 3)
		}
		// A text that does not end takes all that follows it.
		expectError(t, a+` "b`, err, 1)
		expectError(t, "\n"+a+"\n\"b\n", err, 2)
		expectError(t, "\n\"b\n"+a, api.ErrSyntax, 2)
		expectError(t, "\n\"b\n"+a+"\n\"", api.ErrSyntax, 2)
	}
}
