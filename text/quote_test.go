package text

import (
	"fmt"
	"math/rand"
	"regexp"
	"strings"
	"testing"
)

// quoted returns what stands for the byte b in a quoted string.
func quoted(b int) string {
	switch {
	case b == '"':
		return `\"`
	case b == '\\':
		return `\\`
	case b == 10:
		return `\n`
	case 32 <= b && b <= 126:
		return string(rune(b))
	}
	return fmt.Sprintf(`\x%02x`, b)
}

func checkNotQuoted(t *testing.T, s string) {
	t.Helper()
	if got, ok := Unquote(s); got != "" || ok {
		t.Errorf("%q: %q, %v", s, got, ok)
	}
}

func checkQuoted(t *testing.T, s, want string) {
	t.Helper()
	if got, ok := Unquote(s); got != want || !ok {
		t.Errorf("%q: %q, %v", s, got, ok)
	}
}

// P2.2: quoted strings.

var quotes = map[string]string{
	"":                 `""`,
	"a":                `"a"`,
	" ~!#[]":           `" ~!#[]"`,
	`"`:                `"\""`,
	`""`:               `"\"\""`,
	`\`:                `"\\"`,
	`\\`:               `"\\\\"`,
	`\"`:               `"\\\""`,
	`\n`:               `"\\n"`,
	`\x00`:             `"\\x00"`,
	"\n":               `"\n"`,
	"\n\n":             `"\n\n"`,
	"\t\r":             `"\x09\x0d"`,
	"\x00\x0b\x1f\x7f": `"\x00\x0b\x1f\x7f"`,
	"\x80\xab\xff":     `"\x80\xab\xff"`,
	"é":                `"\xc3\xa9"`,
	"x\x00n\nx":        `"x\x00n\nx"`,
	"'":                `"'"`,
	"/":                `"/"`,
}

func TestQuoteAndUnquote(t *testing.T) {
	for s, want := range quotes {
		same(t, s, Quote(s), want)
		checkQuoted(t, want, s)
	}
}

func TestEveryByteIsQuoted(t *testing.T) {
	all, want := "", ""
	for b := range 256 {
		s := string([]byte{byte(b)})
		all += s
		want += quoted(b)
		same(t, s, Quote(s), `"`+quoted(b)+`"`)
		checkQuoted(t, `"`+quoted(b)+`"`, s)
		same(t, s, Quote("a"+s+s+"0"), `"a`+quoted(b)+quoted(b)+`0"`)
		checkQuoted(t, `"a`+quoted(b)+quoted(b)+`0"`, "a"+s+s+"0")
	}
	same(t, "all bytes", Quote(all), `"`+want+`"`)
	checkQuoted(t, `"`+want+`"`, all)
}

func TestEveryBareByteInQuotes(t *testing.T) {
	for b := range 256 {
		s := string([]byte{byte(b)})
		for _, c := range []string{s, "a" + s, s + "a"} {
			if 32 <= b && b <= 126 && b != '"' && b != '\\' {
				checkQuoted(t, `"`+c+`"`, c)
			} else {
				checkNotQuoted(t, `"`+c+`"`)
			}
		}
	}
}

func TestEveryByteAfterABackslash(t *testing.T) {
	for b := range 256 {
		s := `"\` + string([]byte{byte(b)}) + `"`
		switch b {
		case '"':
			checkQuoted(t, s, `"`)
		case '\\':
			checkQuoted(t, s, `\`)
		case 'n':
			checkQuoted(t, s, "\n")
		default:
			checkNotQuoted(t, s)
		}
	}
}

func TestEveryPairOfBytesAfterX(t *testing.T) {
	accepted := map[string]string{}
	for b := range 256 {
		if (b < 32 || b > 126) && b != 10 {
			accepted[fmt.Sprintf("%02x", b)] = string([]byte{byte(b)})
		}
	}
	for a := range 256 {
		for b := range 256 {
			pair := string([]byte{byte(a), byte(b)})
			s := `"\x` + pair + `"`
			if want, ok := accepted[pair]; ok {
				checkQuoted(t, s, want)
			} else {
				checkNotQuoted(t, s)
			}
		}
	}
}

func TestUnquoteOfWhatIsNoQuotedString(t *testing.T) {
	for _, s := range []string{
		"", "a", `"`, `a"`, `"a`, `""a`, `a""`, `"""`, `""""`, ` ""`, `"" `, `""` + "\n", `"a"b"`, `"a""b"`, `''`, "``", `"a'`,
		`\`, `\"`, `\""`, `"\`, `"\"`, `"\\`, `"\\\"`, `"a\"`, `"\n`, `"n\"`,
		`"\x"`, `"\x0"`, `"\x1"`, `"\xc"`, `"\x`, `"\x0`, `"\x00`, `"\x0\"`, `"\x\"`, `"\x0""`, `"\x\\"`,
		`"\xC8"`, `"\xcA"`, `"\xAB"`, `"\xaB"`, `"\XC8"`, `"\Xc8"`, `"\xg0"`, `"\x0g"`, `"\x 1"`, `"\x+1"`, `"\x-1"`, `"\x/0"`, `"\x:0"`, "\"\\x`0\"",
		`"\x20"`, `"\x22"`, `"\x41"`, `"\x5c"`, `"\x61"`, `"\x7e"`, `"\x0a"`,
		`"\a"`, `"\t"`, `"\r"`, `"\0"`, `"\N"`, `"\'"`, `"\ "`, `"\u00e9"`, `"\101"`,
		"\"\n\"", "\"\t\"", "\"\x00\"", "\"\x7f\"", "\"é\"", "\"\xff\"",
	} {
		checkNotQuoted(t, s)
	}
}

var quotedStrings = regexp.MustCompile(`\A"([ !#-\[\]-~]|\\["\\n]|\\x(0[0-9b-f]|1[0-9a-f]|7f|[89a-f][0-9a-f]))*"\z`)

func TestUnquoteOfShortStrings(t *testing.T) {
	each(`"\nx0fF`+"\n", 6, func(s string) {
		got, ok := Unquote(s)
		if ok != quotedStrings.MatchString(s) || !ok && got != "" {
			t.Errorf("%q: %q, %v", s, got, ok)
		}
	})
	each(`"\nx017afA`, 5, func(s string) {
		s = `"` + s + `"`
		if _, ok := Unquote(s); ok != quotedStrings.MatchString(s) {
			t.Errorf("%q: %v", s, ok)
		}
	})
}

// P2.7: Unquote inverts Quote, and accepts nothing else.

func TestUnquoteInvertsQuote(t *testing.T) {
	check := func(s string) { checkQuoted(t, Quote(s), s) }
	each(`"\nx0f`+"\n\x00\xff ", 4, check)
	rnd := rand.New(rand.NewSource(3))
	for range 2000 {
		b := make([]byte, rnd.Intn(100))
		rnd.Read(b)
		check(string(b))
	}
	check(strings.Repeat("\\\"\n\xc8a", 100000))
}

func TestUnquoteAcceptsOnlyWhatQuoteReturns(t *testing.T) {
	each(`"\nx09b`, 6, func(s string) {
		for _, q := range []string{s, `"` + s + `"`} {
			if got, ok := Unquote(q); ok && Quote(got) != q {
				t.Errorf("%q: %q", q, got)
			}
		}
	})
}

func FuzzUnquote(f *testing.F) {
	for s, q := range quotes {
		f.Add(s)
		f.Add(q)
	}
	f.Fuzz(func(t *testing.T, s string) {
		checkQuoted(t, Quote(s), s)
		got, ok := Unquote(s)
		if ok != quotedStrings.MatchString(s) || ok && Quote(got) != s || !ok && got != "" {
			t.Errorf("%q: %q, %v", s, got, ok)
		}
	})
}
