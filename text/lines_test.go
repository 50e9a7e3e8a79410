package text

import (
	"slices"
	"strings"
	"testing"
)

func checkList(t *testing.T, about string, got []string, want ...string) {
	t.Helper()
	if !slices.Equal(got, want) {
		t.Errorf("%q: %q instead of %q", about, got, want)
	}
}

// P2.3: lines and fields.

func TestLines(t *testing.T) {
	for s, want := range map[string][]string{
		"":             {},
		"a":            {"a"},
		"\n":           {""},
		"\n\n":         {"", ""},
		"a\n":          {"a"},
		"a\n\n":        {"a", ""},
		"\na":          {"", "a"},
		"\n\na\n":      {"", "", "a"},
		"a\nb":         {"a", "b"},
		"a\nb\n":       {"a", "b"},
		"a\n\nb":       {"a", "", "b"},
		" a \n\tb\r\n": {" a ", "\tb\r"},
		"a\rb\vc\fd":   {"a\rb\vc\fd"},
		"\r\n\r":       {"\r", "\r"},
		"é\xff\n\x00":  {"é\xff", "\x00"},
		"a\u2028b":     {"a\u2028b"},
	} {
		checkList(t, s, Lines(s), want...)
	}
}

func TestLinesOfShortStrings(t *testing.T) {
	each("ab\n\r ", 6, func(s string) {
		want := strings.Split(s, "\n")
		if last := len(want) - 1; want[last] == "" {
			want = want[:last]
		}
		checkList(t, s, Lines(s), want...)
	})
}

func TestUnlines(t *testing.T) {
	for _, c := range []struct {
		l    []string
		want string
	}{
		{nil, ""},
		{[]string{}, ""},
		{[]string{""}, "\n"},
		{[]string{"", ""}, "\n\n"},
		{[]string{"a"}, "a\n"},
		{[]string{"a", "b"}, "a\nb\n"},
		{[]string{"", "a", ""}, "\na\n\n"},
		{[]string{"a\n", "b\nc"}, "a\n\nb\nc\n"},
		{[]string{" \t\r", "\x00\xff"}, " \t\r\n\x00\xff\n"},
	} {
		same(t, "Unlines", Unlines(c.l), c.want)
	}
}

func TestOnlyAnLFEndsALine(t *testing.T) {
	for b := range 256 {
		s := "a" + string([]byte{byte(b)}) + "c"
		if b == 10 {
			checkList(t, s, Lines(s), "a", "c")
		} else {
			checkList(t, s, Lines(s), s)
		}
	}
}

func TestFields(t *testing.T) {
	for s, want := range map[string][]string{
		"":                  {},
		" ":                 {},
		" \t\n ":            {},
		"a":                 {"a"},
		" a":                {"a"},
		"a ":                {"a"},
		"\n\ta\t\n":         {"a"},
		"a b":               {"a", "b"},
		"a\tb\nc d":         {"a", "b", "c", "d"},
		"  ab \t\n cde":     {"ab", "cde"},
		"a\rb\vc\fd e":      {"a\rb\vc\fd", "e"},
		"a\u00a0b\u0085c d": {"a\u00a0b\u0085c", "d"},
		"\x00 \xff\xa0":     {"\x00", "\xff\xa0"},
		`"a b" c`:           {`"a`, `b"`, "c"},
	} {
		checkList(t, s, Fields(s), want...)
	}
}

func TestFieldsOfShortStrings(t *testing.T) {
	each("ab \t\n\r", 6, func(s string) {
		want := strings.FieldsFunc(s, func(r rune) bool { return r == ' ' || r == '\t' || r == '\n' })
		checkList(t, s, Fields(s), want...)
	})
}

func TestOnlyThreeBytesAreWhite(t *testing.T) {
	for b := range 256 {
		c := string([]byte{byte(b)})
		if b == 32 || b == 9 || b == 10 {
			checkList(t, c, Fields("a"+c+"b"), "a", "b")
			checkList(t, c, Fields(c))
		} else {
			checkList(t, c, Fields("a"+c+"b"), "a"+c+"b")
			checkList(t, c, Fields(c), c)
		}
	}
}

// P2.7: Lines inverts Unlines, if no element contains an LF.

func TestLinesInvertsUnlines(t *testing.T) {
	for _, n := range []int{0, 1, 2, 3} {
		check := func(l []string) { checkList(t, "Lines", Lines(Unlines(l)), l...) }
		eachList([]string{"", "a", " ", "\r", "\x00b", "é\xff", `\n`}, n, check)
	}
	l := make([]string, 100000)
	for i := range l {
		l[i] = Decimal(i % 7 * i)
	}
	checkList(t, "long", Lines(Unlines(l)), l...)
}

// eachList calls check for every list of n of the strings.
func eachList(strings []string, n int, check func(l []string)) {
	if n == 0 {
		check(nil)
		return
	}
	for _, s := range strings {
		eachList(strings, n-1, func(l []string) { check(append([]string{s}, l...)) })
	}
}

func TestFieldsAndLinesOfLongStrings(t *testing.T) {
	s := strings.Repeat("ab c\n", 100000)
	if l := Lines(s); len(l) != 100000 || l[99999] != "ab c" || Unlines(l) != s {
		t.Error(len(l))
	}
	if l := Fields(s); len(l) != 200000 || l[199999] != "c" {
		t.Error(len(l))
	}
}
