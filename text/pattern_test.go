package text

import (
	"math/rand"
	"regexp"
	"slices"
	"strings"
	"testing"
)

// model is a part of a pattern, as the definitions say it: it matches any string, or single bytes.
type model struct {
	source    string
	anyString bool
	bytes     [256]bool
}

func (m *model) magic() bool {
	return m.source == "*" || m.source == "?" || len(m.source) > 1 && m.source[0] == '['
}

func (m *model) plain() string {
	if len(m.source) == 2 && m.source[0] == '\\' {
		return m.source[1:]
	}
	return m.source
}

// models returns the parts of a pattern.
func models(p string) []*model {
	var l []*model
	for p != "" {
		m := firstModel(p)
		l = append(l, m)
		p = p[len(m.source):]
	}
	return l
}

func firstModel(p string) *model {
	m := &model{source: p[:1]}
	switch p[0] {
	case '*':
		m.anyString = true
		return m
	case '?':
		for b := range 256 {
			m.bytes[b] = true
		}
		return m
	case '\\':
		if len(p) > 1 {
			m.source = p[:2]
			m.bytes[p[1]] = true
			return m
		}
	case '[':
		if len(p) > 3 && p[1] == '!' {
			if set, _, ok := strings.Cut(p[3:], "]"); ok {
				m.source = p[:3+len(set)+1]
				m.bytes = setModel(p[2 : 3+len(set)])
				for b := range 256 {
					m.bytes[b] = !m.bytes[b]
				}
				return m
			}
		}
		if len(p) > 2 {
			if set, _, ok := strings.Cut(p[2:], "]"); ok {
				m.source = p[:2+len(set)+1]
				m.bytes = setModel(p[1 : 2+len(set)])
				return m
			}
		}
	}
	m.bytes[p[0]] = true
	return m
}

// A range, or a single byte. The bytes of a set are given to it as runes.
var setItem = regexp.MustCompile(`(?s)(.)-(.)|(.)`)

func setModel(set string) (bytes [256]bool) {
	var runes []rune
	for i := range len(set) {
		runes = append(runes, rune(set[i]))
	}
	for _, item := range setItem.FindAllString(string(runes), -1) {
		l := []rune(item)
		for b := l[0]; b <= l[len(l)-1]; b++ {
			bytes[b] = true
		}
	}
	return bytes
}

// matchModel reports whether the parts match s, which has less than 63 bytes: it keeps the set of all positions up to which the parts so far can match.
func matchModel(l []*model, s string) bool {
	positions := uint64(1)
	for _, m := range l {
		next := uint64(0)
		for i := range len(s) + 1 {
			if positions>>i&1 == 0 {
				continue
			}
			if m.anyString {
				next |= ^uint64(0) << i
			} else if i < len(s) && m.bytes[s[i]] {
				next |= 1 << (i + 1)
			}
		}
		positions = next
	}
	return positions>>len(s)&1 == 1
}

func checkPattern(t *testing.T, p string, l []*model, s string) {
	t.Helper()
	if want := matchModel(l, s); Pattern(p, s) != want {
		t.Errorf("pattern %q, string %q: %v", p, s, !want)
	}
}

// bytesOf returns the bytes that p matches, each as a string of its own.
func bytesOf(p string) string {
	var out []byte
	for b := range 256 {
		if Pattern(p, string([]byte{byte(b)})) {
			out = append(out, byte(b))
		}
	}
	return string(out)
}

// allBut returns all bytes but those in s.
func allBut(s string) string {
	var out []byte
	for b := range 256 {
		if strings.IndexByte(s, byte(b)) < 0 {
			out = append(out, byte(b))
		}
	}
	return string(out)
}

// P2.4: patterns.

func TestPattern(t *testing.T) {
	for _, c := range []struct {
		p       string
		yes, no []string
	}{
		{"", []string{""}, []string{"a", " ", "*"}},
		{"abc", []string{"abc"}, []string{"", "ab", "abcd", "abd", "xabc", "ABC"}},
		{"*", []string{"", "a", "*", "abc", "\n", "\x00\xff", "a/b"}, nil},
		{"**", []string{"", "a", "**", "abc"}, nil},
		{"?", []string{"a", "?", "*", "\n", "\x00", "\xff"}, []string{"", "ab", "é"}},
		{"??", []string{"ab", "é"}, []string{"", "a", "abc"}},
		{"*?", []string{"a", "abc"}, []string{""}},
		{"?*", []string{"a", "abc"}, []string{""}},
		{"?*?", []string{"ab", "abc"}, []string{"", "a"}},
		{"a*", []string{"a", "ab", "aa", "a*"}, []string{"", "b", "ba"}},
		{"*a", []string{"a", "ba", "aa", "aba"}, []string{"", "b", "ab"}},
		{"a*b", []string{"ab", "aab", "abb", "axxb", "a*b", "aba b"}, []string{"", "a", "b", "ba", "aba", "abx"}},
		{"*a*", []string{"a", "bab", "aa"}, []string{"", "b", "bb"}},
		{"*ab*ab*", []string{"abab", "xabyabz", "aabab"}, []string{"ab", "aba", "abba", "abxa"}},
		{"*aab", []string{"aab", "aaab", "aabaab"}, []string{"aaba", "ab", "abab"}},
		{"a*b*c", []string{"abc", "abbcc", "axbxc", "abcbc"}, []string{"acb", "ab", "abcb"}},
		{"a*a", []string{"aa", "aba"}, []string{"a", "", "ab"}},
		{"*[ab]?c", []string{"abc", "xxbbc", "abbcacc"}, []string{"bc", "xbc", "abcx"}},
		{`\*`, []string{"*"}, []string{"", "a", "ab", `\`, `\*`, `\a`}},
		{`\?`, []string{"?"}, []string{"a", `\?`}},
		{`\[a]`, []string{"[a]"}, []string{"a", `\[a]`, `\a`}},
		{`\[`, []string{"["}, []string{`\`, `\[`}},
		{`\\`, []string{`\`}, []string{`\\`, ""}},
		{`\\*`, []string{`\`, `\\`, `\a`}, []string{"*", "a", ""}},
		{`\a\b`, []string{"ab"}, []string{`\a\b`, "a", `\a`}},
		{`\n`, []string{"n"}, []string{"\n", `\n`}},
		{`\`, []string{`\`}, []string{"", `\\`, "a"}},
		{`a\`, []string{`a\`}, []string{"a", "a\\\\"}},
		{`\\\`, []string{`\\`}, []string{`\`, `\\\`}},
		{`*\`, []string{`\`, `a\`, `\\`}, []string{"", "a", `\a`}},
	} {
		checkMatches(t, c.p, c.yes, c.no)
	}
}

func checkMatches(t *testing.T, p string, yes, no []string) {
	t.Helper()
	for _, s := range yes {
		if !Pattern(p, s) {
			t.Errorf("%q does not match %q", p, s)
		}
	}
	for _, s := range no {
		if Pattern(p, s) {
			t.Errorf("%q matches %q", p, s)
		}
	}
}

func TestClassesAreSetsOfBytes(t *testing.T) {
	for _, c := range []struct{ p, want string }{
		{"[a]", "a"},
		{"[abc]", "abc"},
		{"[aa]", "a"},
		{"[a-c]", "abc"},
		{"[a-cx-z]", "abcxyz"},
		{"[a-a]", "a"},
		{"[c-a]", ""},
		{"[b-ax]", "x"},
		{"[a-]", "-a"},
		{"[-a]", "-a"},
		{"[-]", "-"},
		{"[--]", "-"},
		{"[---]", "-"},
		{"[----]", "-"},
		{"[--/]", "-./"},
		{"[+--]", "+,-"},
		{"[a--]", ""},
		{"[-a-c]", "-abc"},
		{"[a-c-e]", "-abce"},
		{"[a-c-]", "-abc"},
		{"[a-bc-d]", "abcd"},
		{"[a-b-c-d]", "-abcd"},
		{"[0-9]", "0123456789"},
		{"[]]", "]"},
		{"[]a]", "]a"},
		{"[]-a]", "]^_`a"},
		{"[a-]]", ""}, // the class [a-], and the byte ]
		{`[\]`, `\`},
		{`[\a]`, `\a`},
		{`[\-a]`, "\\]^_`a"},
		{`[*?]`, "*?"},
		{`[[]`, "["},
		{`[[a]`, "[a"},
		{`[a!]`, "!a"},
		{`[^a]`, "^a"},
		{`[^]`, "^"},
		{"[!]", "!"},
		{"[a\nb]", "\nab"},
		{"[\x00\xff]", "\x00\xff"},
		{"[\xfd-\xff]", "\xfd\xfe\xff"},
		{"[é]", "\xa9\xc3"},
		{"[\x00-\xff]", allBut("")},
		{"[!a]", allBut("a")},
		{"[!!]", allBut("!")},
		{"[!]]", allBut("]")},
		{"[!]a]", allBut("]a")},
		{"[!]!]", allBut("]!")},
		{"[!-]", allBut("-")},
		{"[!-a]", allBut("-a")},
		{"[!a-]", allBut("-a")},
		{"[!a-c]", allBut("abc")},
		{"[!c-a]", allBut("")},
		{"[!!-#]", allBut("!\"#")},
		{"[!]-_]", allBut("]^_")},
		{`[!\]`, allBut(`\`)},
		{"[![]", allBut("[")},
		{"[!^]", allBut("^")},
		{"[!\x00-\xfe]", "\xff"},
		{"[!\x00-\xff]", ""},
	} {
		same(t, c.p, bytesOf(c.p), c.want)
		if Pattern(c.p, "") {
			t.Errorf("%q matches the empty string", c.p)
		}
	}
}

func TestWhereClassesEnd(t *testing.T) {
	for _, c := range []struct {
		p       string
		yes, no []string
	}{
		{"[", []string{"["}, []string{"", "[["}},
		{"]", []string{"]"}, []string{"", "[]"}},
		{"[]", []string{"[]"}, []string{"", "[", "]"}},
		{"[!", []string{"[!"}, []string{"", "!", "["}},
		{"[a", []string{"[a"}, []string{"a", "["}},
		{"[a-z", []string{"[a-z"}, []string{"b", "[b"}},
		{"[a?", []string{"[ab", "[a?"}, []string{"a", "ab", "[a"}},
		{"[*", []string{"[", "[ab"}, []string{"", "a", "*"}},
		{`[\*`, []string{"[*"}, []string{"[", `[\`, "[a"}},
		{"[!a", []string{"[!a"}, []string{"b"}},
		{"[]a", []string{"[]a"}, []string{"a", "]"}},
		{"[]*", []string{"[]", "[]a"}, []string{"["}},
		{"[a]]", []string{"a]"}, []string{"a", "]", "]]", "[a]]"}},
		{"[]]]", []string{"]]"}, []string{"]", "]]]"}},
		{"[!]]]", []string{"a]", "!]", "[]"}, []string{"]]", "!", "a"}},
		{"[!]]!]", []string{"a!]"}, []string{"a", "!!]]", "]!]"}},
		{"[!a]b]", []string{"!b]", "xb]"}, []string{"ab]", "x"}},
		{"[[]]", []string{"[]"}, []string{"[", "]", "[[]]"}},
		{"[[a]b", []string{"[b", "ab"}, []string{"[ab", "b"}},
		{"[[", []string{"[["}, []string{"["}},
		{"[[[a]", []string{"[", "a"}, []string{"[[a", "[[["}},
		{"[a][b]", []string{"ab"}, []string{"a", "b", "a][b", "]"}},
		{"[a][", []string{"a["}, []string{"a", "["}},
		{"[a][]", []string{"a[]"}, []string{"a", "a]"}},
		{`[\]]`, []string{`\]`}, []string{"]", `\`}},
		{`\[]`, []string{"[]"}, []string{"]", "["}},
		{`\[!]a]`, []string{"[!]a]"}, []string{"x"}},
		{"[!][!]", []string{"a", "x"}, []string{"!!", "[", "]", "!"}},
		{"a[!]", []string{"a!"}, []string{"ab", "a"}},
		{"[!]*]", []string{"a", "!", "["}, []string{"*", "]", "!a]"}},
	} {
		checkMatches(t, c.p, c.yes, c.no)
	}
}

func TestEveryByteInAPattern(t *testing.T) {
	for b := range 256 {
		s := string([]byte{byte(b)})
		switch s {
		case "*", "?":
			same(t, s, bytesOf(s), allBut(""))
		default:
			same(t, s, bytesOf(s), s)
		}
		if Pattern(s, "") != (s == "*") || Pattern(s, s+s) != (s == "*") {
			t.Errorf("%q matches none or two bytes", s)
		}
		same(t, `\`+s, bytesOf(`\`+s), s)
		same(t, "["+s+"]", bytesOf("["+s+"]"), s)
		same(t, "[!"+s+"]", bytesOf("[!"+s+"]"), allBut(s))
		checkMatches(t, `*\`+s+`*`, []string{s, "a" + s + "a"}, []string{"", strings.Repeat(string([]byte{byte(b + 1)}), 3)})
	}
}

func TestEveryRange(t *testing.T) {
	ends := "\x00\x01\n !\"#*+,-./09?@AZ[\\]^_`az{~\x7f\x80\xfe\xff"
	for i := range len(ends) {
		for k := range len(ends) {
			r := ends[i:i+1] + "-" + ends[k:k+1]
			for _, p := range []string{"[" + r + "]", "[!" + r + "]", "[x" + r + "y]", "[!" + r + r + "]"} {
				l := models(p)
				for b := range 256 {
					checkPattern(t, p, l, string([]byte{byte(b)}))
				}
			}
		}
	}
}

func TestShortPatterns(t *testing.T) {
	var strings []string
	each(`*\[]!-ab`, 2, func(s string) { strings = append(strings, s) })
	each("ab", 4, func(s string) { strings = append(strings, s) })
	each(`*?\[]!-ab`, 4, func(p string) {
		l := models(p)
		for _, s := range strings {
			checkPattern(t, p, l, s)
		}
	})
}

func TestShortPatternsWithAClass(t *testing.T) {
	each(`!]-\acz[`, 5, func(set string) {
		p := "[" + set + "]"
		l := models(p)
		for _, s := range []string{"!", "]", "-", `\`, "a", "b", "c", "z", "[", "^", "b]", "]]", "a!]"} {
			checkPattern(t, p, l, s)
		}
	})
}

func TestPatternsWithMoreThanOneStar(t *testing.T) {
	var strings []string
	each("ab", 7, func(s string) { strings = append(strings, s) })
	each("*?ab", 6, func(p string) {
		l := models(p)
		for _, s := range strings {
			checkPattern(t, p, l, s)
		}
	})
}

func randomOf(rnd *rand.Rand, alphabet string, most int) string {
	b := make([]byte, rnd.Intn(most+1))
	for i := range b {
		b[i] = alphabet[rnd.Intn(len(alphabet))]
	}
	return string(b)
}

func TestRandomPatterns(t *testing.T) {
	rnd := rand.New(rand.NewSource(4))
	for range 100000 {
		p := randomOf(rnd, "**??\\[[]]!--abcd\n\xff", 16)
		l := models(p)
		for range 10 {
			checkPattern(t, p, l, randomOf(rnd, "abcd]-![\\*\n\xff", 10))
		}
		// A string that is likely to match: something for each part.
		s := ""
		for _, m := range l {
			s += m.plain()
		}
		checkPattern(t, p, l, s)
	}
}

func TestLongPatterns(t *testing.T) {
	const n = 1000000
	a := strings.Repeat("a", n)
	checkMatches(t, a, []string{a}, []string{a + "a", a[1:], a[1:] + "b"})
	checkMatches(t, strings.Repeat("*", n), []string{"", a}, nil)
	checkMatches(t, strings.Repeat("?", n), []string{a}, []string{a[1:], a + "a"})
	checkMatches(t, strings.Repeat("*a", 500)+"b", []string{a[:5000] + "b"}, []string{a[:5000], a[:499] + "b"})
	checkMatches(t, "*"+a, []string{a, "b" + a}, []string{a[1:]})
	checkMatches(t, "*"+a[:5000], []string{a[:10000]}, []string{a[:10000] + "b"})
	brackets := strings.Repeat("[", n)
	checkMatches(t, brackets, []string{brackets}, []string{brackets[1:], ""})
	checkMatches(t, brackets+"]", []string{"["}, []string{brackets + "]"})
	negated := strings.Repeat("[!", n)
	checkMatches(t, negated, []string{negated}, []string{"a"})
	if Magic(negated) || Plain(negated) != negated || !Magic(negated+"]") {
		t.Error("many classes without an end")
	}
}

// P2.5: magic, plain strings, and escaping.

func TestMagicAndPlain(t *testing.T) {
	for _, c := range []struct {
		p     string
		magic bool
		plain string
	}{
		{"", false, ""},
		{"abc", false, "abc"},
		{"*", true, "*"},
		{"?", true, "?"},
		{"a*", true, "a*"},
		{"ab?c", true, "ab?c"},
		{"[a]", true, "[a]"},
		{"[!a]", true, "[!a]"},
		{"[!]", true, "[!]"},
		{"[]]", true, "[]]"},
		{"[", false, "["},
		{"]", false, "]"},
		{"[]", false, "[]"},
		{"[!", false, "[!"},
		{"[a", false, "[a"},
		{"[[", false, "[["},
		{"[[]", true, "[[]"},
		{`\*`, false, "*"},
		{`\?`, false, "?"},
		{`\[a]`, false, "[a]"},
		{`\[a\]`, false, "[a]"},
		{`[a\]`, true, `[a\]`},
		{`[\*]`, true, `[\*]`},
		{`[\*`, false, "[*"},
		{`\\`, false, `\`},
		{`\\*`, true, `\*`},
		{`\\\*`, false, `\*`},
		{`\a\b\`, false, `ab\`},
		{`\`, false, `\`},
		{`a\`, false, `a\`},
		{`\\\`, false, `\\`},
		{`*\*`, true, "**"},
		{`\*?`, true, "*?"},
		{`[a]\a`, true, "[a]a"},
		{"\\\n\\\xff", false, "\n\xff"},
		{"a-!b]", false, "a-!b]"},
	} {
		if got := Magic(c.p); got != c.magic {
			t.Errorf("Magic(%q): %v", c.p, got)
		}
		same(t, c.p, Plain(c.p), c.plain)
	}
}

func TestMagicAndPlainOfShortPatterns(t *testing.T) {
	each(`*?\[]!-a`, 6, func(p string) {
		magic, plain := false, ""
		for _, m := range models(p) {
			magic = magic || m.magic()
			plain += m.plain()
		}
		if Magic(p) != magic || Plain(p) != plain {
			t.Errorf("%q: %v, %q", p, Magic(p), Plain(p))
		}
	})
}

func TestEscape(t *testing.T) {
	for s, want := range map[string]string{
		"":           "",
		"abc":        "abc",
		"*":          `\*`,
		"?":          `\?`,
		"[":          `\[`,
		`\`:          `\\`,
		"]":          "]",
		"!":          "!",
		"-":          "-",
		"[!a-c]*":    `\[!a-c]\*`,
		`\*`:         `\\\*`,
		"a\n\x00é**": "a\n\x00é\\*\\*",
	} {
		same(t, s, Escape(s), want)
	}
	for b := range 256 {
		s := string([]byte{byte(b)})
		want := s
		if s == "*" || s == "?" || s == "[" || s == `\` {
			want = `\` + s
		}
		same(t, s, Escape(s), want)
	}
}

// P2.8: a pattern without magic matches exactly the string that Plain returns, and Escape of a string is such a pattern.

func TestPatternsWithoutMagic(t *testing.T) {
	var strings []string
	each(`*?\[]!a`, 3, func(s string) { strings = append(strings, s) })
	each(`*?\[]!a`, 4, func(p string) {
		if Magic(p) {
			return
		}
		plain := Plain(p)
		if !Pattern(p, plain) {
			t.Errorf("%q does not match %q", p, plain)
		}
		for _, s := range append(strings, plain+"a", "a"+plain) {
			if s != plain && Pattern(p, s) {
				t.Errorf("%q matches %q", p, s)
			}
		}
	})
}

func TestEscapeHasNoMagic(t *testing.T) {
	check := func(s string) {
		p := Escape(s)
		if Magic(p) || Plain(p) != s || !Pattern(p, s) || Pattern(p, s+"a") || Pattern(p, "a"+s) {
			t.Errorf("%q: %q", s, p)
		}
	}
	each(`*?\[]!-a`, 5, check)
	rnd := rand.New(rand.NewSource(5))
	for range 2000 {
		b := make([]byte, rnd.Intn(100))
		rnd.Read(b)
		check(string(b))
	}
}

// P2.9: concatenation.

func canBeContinued(p string) bool {
	return !strings.HasSuffix(p, `\`) && !slices.ContainsFunc(models(p), func(m *model) bool {
		return m.source == "[" || m.source == "[!]"
	})
}

func TestConcatenation(t *testing.T) {
	var patterns []string
	each(`*?\[]!a`, 4, func(p string) { patterns = append(patterns, p) })
	rnd := rand.New(rand.NewSource(6))
	matched := map[string][]string{}
	for _, p := range patterns {
		for _, s := range []string{"", "a", "!", "]", "[", `\`, "a]", "*", "?", "aa", "!a]", Plain(p), Plain(p) + "a"} {
			if Pattern(p, s) {
				matched[p] = append(matched[p], s)
			}
		}
	}
	tried := 0
	for _, p := range patterns {
		if !canBeContinued(p) {
			continue
		}
		for range 200 {
			q := patterns[rnd.Intn(len(patterns))]
			for _, s := range matched[p] {
				for _, u := range matched[q] {
					tried++
					if !Pattern(p+q, s+u) {
						t.Errorf("%q and %q, %q and %q", p, q, s, u)
					}
				}
			}
		}
	}
	if tried < 100000 {
		t.Error(tried)
	}
}

func TestWhatCannotBeContinued(t *testing.T) {
	for _, c := range []struct{ p, q, s, u string }{{`\`, "*", `\`, "ab"}, {"[", "a]", "[", "a]"}, {"[!]", "a]", "!", "a]"}, {"[!", "a]", "[!", "a]"}, {"[]", "]", "[]", "]"}} {
		if !Pattern(c.p, c.s) || !Pattern(c.q, c.u) || Pattern(c.p+c.q, c.s+c.u) {
			t.Errorf("%q and %q", c.p, c.q)
		}
	}
}

// The rows of the chapter's examples.

func TestExamplesOfPatterns(t *testing.T) {
	checkMatches(t, "a*[!x-z]?", []string{"abcd"}, nil)
	checkMatches(t, "[]]", []string{"]"}, nil)
	checkMatches(t, "[a", []string{"[a"}, nil)
	checkMatches(t, `\*`, []string{"*"}, []string{"ab"})
}

func FuzzPattern(f *testing.F) {
	for _, c := range [][2]string{{"", ""}, {"a*[!x-z]?", "abcd"}, {"[]]", "]"}, {"[a", "[a"}, {`\*`, "*"}, {"*a*b[c-]", "xaybc"}, {"[!]", "!"}, {"[!]a-c]*\\", "xy\\"}} {
		f.Add(c[0], c[1])
	}
	f.Fuzz(func(t *testing.T, p, s string) {
		if len(s) < 63 {
			checkPattern(t, p, models(p), s)
		}
		magic, plain := false, ""
		for _, m := range models(p) {
			magic = magic || m.magic()
			plain += m.plain()
		}
		if Magic(p) != magic || Plain(p) != plain || Magic(Escape(s)) || Plain(Escape(s)) != s {
			t.Errorf("pattern %q, string %q", p, s)
		}
	})
}
