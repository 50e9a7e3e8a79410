package lex

import (
	"fmt"
	"math/big"
	"math/rand"
	"regexp"
	"strconv"
	"strings"
	"testing"

	"taquin/api"
)

// The definitions of the chapters 2 and 9, without regard to how long it takes.

var (
	blanks        = regexp.MustCompile(`\A([ \t\r]|#[^\n]*)`)
	names         = regexp.MustCompile(`\A[a-zA-Z0-9_][a-zA-Z0-9_-]*`)
	decimals      = regexp.MustCompile(`\A(0|[1-9][0-9]*)\z`)
	onlyDigits    = regexp.MustCompile(`\A[0-9]+\z`)
	quotedStrings = regexp.MustCompile(`\A"([ !#-\[\]-~]|\\["\\n]|\\x(0[0-9b-f]|1[0-9a-f]|7f|[89a-f][0-9a-f]))*"\z`)
)

// quotedByte returns what stands for the byte b in a quoted string.
func quotedByte(b int) string {
	switch {
	case b == '"' || b == '\\':
		return `\` + one(b)
	case b == 10:
		return `\n`
	case 32 <= b && b <= 126:
		return one(b)
	}
	return fmt.Sprintf(`\x%02x`, b)
}

// model returns what Lex has to return.
func model(src string) ([]api.Token, api.Errno, int) {
	if len(src) > 20000 {
		return nil, api.ErrFull, 0
	}
	var tokens []api.Token
	line := func(i int) int { return 1 + strings.Count(src[:i], "\n") }
	for i := 0; i < len(src); {
		if blank := blanks.FindString(src[i:]); blank != "" {
			i += len(blank)
			continue
		}
		piece, token, err := modelToken(src[i:])
		if err != api.OK {
			return nil, err, line(i)
		}
		token.Line = line(i)
		tokens = append(tokens, token)
		i += len(piece)
	}
	return append(tokens, api.Token{Kind: api.TkEnd, Line: line(len(src))}), api.OK, 0
}

// modelToken returns what belongs to the token with which s begins, and the token without its line; or its error.
func modelToken(s string) (string, api.Token, api.Errno) {
	name := names.FindString(s)
	switch {
	case s[0] == '\n':
		return "\n", api.Token{Kind: api.TkLine}, api.OK
	case s[0] == '"':
		piece := modelText(s)
		if contents, err := strconv.Unquote(piece); err == nil && quotedStrings.MatchString(piece) {
			return piece, api.Token{Kind: api.TkText, Text: contents}, api.OK
		}
	case words.MatchString(name):
		return name, api.Token{Kind: api.TkWord, Text: name}, api.OK
	case decimals.MatchString(name):
		n, _ := new(big.Int).SetString(name, 10)
		if n.IsInt64() {
			return name, api.Token{Kind: api.TkNumber, Text: name, N: int(n.Int64())}, api.OK
		}
		return "", api.Token{}, api.ErrRange
	}
	return "", api.Token{}, api.ErrSyntax
}

// modelText returns what goes up to the next quotation mark before which there is an even number of backslashes; nothing, if there is none.
func modelText(s string) string {
	for i := 1; i < len(s); i++ {
		backslashes := i - len(strings.TrimRight(s[:i], `\`))
		if s[i] == '"' && backslashes%2 == 0 {
			return s[:i+1]
		}
	}
	return ""
}

func checkModel(t *testing.T, src string) {
	t.Helper()
	tokens, err, line := model(src)
	expect(t, src, tokens, err, line)
}

func TestLexOfShortSources(t *testing.T) {
	check := func(s string) { checkModel(t, s) }
	each("a1_- #\"\\\n", 5, check)
	each("0123", 6, check)
	each("\"\\nx0f", 6, check)
	each("\"\\\n#a", 7, check)
	each("azAZ09_-\t\r \n#\"\\\x00\v\x7f\x80\xff.", 3, check)
}

func TestLexOfEachPairOfBytes(t *testing.T) {
	for a := range 256 {
		for b := range 256 {
			s := one(a) + one(b)
			checkModel(t, s)
			checkModel(t, "a"+s+"\nb")
			checkModel(t, "\n\""+s+"\"\n")
		}
	}
}

func TestLexOfNumbersAtTheLimits(t *testing.T) {
	for i := range 10000 {
		digits := strconv.Itoa(10000 + i)[1:]
		checkModel(t, "922337203685477"+digits)
		checkModel(t, "1844674407370955"+digits)
		checkModel(t, digits)
	}
}

// sources returns sources without errors.
func sources() []string {
	return []string{
		"", " ", "\n", "\n\n \n", "# a", "# \"\n", "a", "0", `""`, "zone cold-1 12 # c", `row "##.P"`,
		"deck\nrow \"#.P\"\nzone a 0 1 0 2 0 1 0\n", "oneway 0 1 1 south", "robot 0 0 0 100\r\nshelf 0 1 1 cold\r\n",
		`a"b"1"c"`, `"\"\\\n\x00\xff"`, "\"\\n\\n\" \"#\"\n\"\"", `"\\" "\\\"" "\\\\"`, "9223372036854775807 0 1",
		"abcdefghijklmnopqrst ____________________", "a- _- b_1-2 # -", "\t\ta\r\n\n# x\n\n\"y\" # \"\n 7", "a # b\n# c\n\n#", strings.Repeat("a 1 \"b\"\n", 2000),
		strings.Repeat("\n", 9000), strings.Repeat(`"\xff"`, 2500),
	}
}

// pieces are what random sources consist of.
func pieces() []string {
	l := []string{
		" ", " ", " ", "\t", "\r", "\n", "\n", "\n", "#", "# a \"b", "a", "b-1", "_", "Zone", "abcdefghijklmnopqrs", "0", "1", "12", "922337203685477580", "7",
		`""`, `"a"`, `" "`, `"#"`, `"\""`, `"\\"`, `"\n"`, `"\x00\xff"`, `"##.P"`, "\n# c\n", "x y", "1 2",
	}
	return append(l, `"`, `\`, "-", ".", "00", "\x00", "\xff", "é", `"\x41"`, "\"\n\"")
}

// draw returns a random source; with n = 10, most of them have errors, and with n = 0 few of them.
func draw(rnd *rand.Rand, n int) string {
	l := pieces()
	l = l[:len(l)-10+n]
	var out strings.Builder
	for range rnd.Intn(40) {
		out.WriteString(l[rnd.Intn(len(l))])
		if rnd.Intn(3) > 0 {
			out.WriteString(" ")
		}
	}
	return out.String()
}

func TestLexOfRandomSources(t *testing.T) {
	rnd := rand.New(rand.NewSource(9))
	right := 0
	for i := range 30000 {
		src := draw(rnd, i%3*5)
		checkModel(t, src)
		checkAgain(t, src)
		checkJoined(t, src, draw(rnd, i%11))
		if _, err, _ := Lex(src); err == api.OK {
			right++
		}
	}
	if right < 8000 || right > 22000 {
		t.Error(right)
	}
}

func TestLexOfRandomBytes(t *testing.T) {
	rnd := rand.New(rand.NewSource(10))
	for range 20000 {
		b := make([]byte, rnd.Intn(12))
		rnd.Read(b)
		checkModel(t, string(b))
		checkModel(t, "# "+string(b)+"\n\""+string(b))
	}
}

func TestLexOfLongSources(t *testing.T) {
	rnd := rand.New(rand.NewSource(12))
	for _, s := range append(sources(), pieces()...) {
		if s != "" {
			checkModel(t, strings.Repeat(s, 3000/len(s)+1))
			checkModel(t, strings.Repeat(s, 20000/len(s))+strings.Repeat(" ", rnd.Intn(40)))
		}
	}
	for range 20 {
		src := ""
		for len(src) < 2000 {
			src += draw(rnd, 0) + "\n"
		}
		checkModel(t, src)
	}
}

func FuzzLex(f *testing.F) {
	for _, a := range append(sources(), pieces()...) {
		f.Add(a, "b\n1 \"c\"")
		f.Add("a # x", a)
	}
	for a := range wrong {
		f.Add(a, "a")
		f.Add("a\n", a)
	}
	f.Fuzz(func(t *testing.T, a, b string) {
		if got := Word(a); got != words.MatchString(a) {
			t.Errorf("%s: %t", brief(a), got)
		}
		checkModel(t, a)
		checkAgain(t, a)
		checkJoined(t, a, b)
	})
}
