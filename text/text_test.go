package text

import (
	"math"
	"math/rand"
	"regexp"
	"slices"
	"strconv"
	"strings"
	"testing"
)

// each calls check for every string of at most n bytes of the alphabet.
func each(alphabet string, n int, check func(s string)) {
	check("")
	if n == 0 {
		return
	}
	for i := range len(alphabet) {
		each(alphabet, n-1, func(s string) {
			check(alphabet[i:i+1] + s)
		})
	}
}

func same(t *testing.T, about, got, want string) {
	t.Helper()
	if got != want {
		t.Errorf("%s: %q instead of %q", about, got, want)
	}
}

func TestEach(t *testing.T) {
	var l []string
	each("ab", 2, func(s string) { l = append(l, s) })
	if !slices.Equal(l, []string{"", "a", "aa", "ab", "b", "ba", "bb"}) {
		t.Errorf("%q", l)
	}
}

// edgeInts returns ints that are at a limit of some kind, and their neighbours.
func edgeInts() []int {
	l := []int{0, 7, 42, 300, math.MaxInt, math.MinInt, math.MaxInt32, math.MinInt32}
	for n, digits := 1, 1; digits < 19; digits++ {
		n *= 10
		l = append(l, n, -n)
	}
	for bit := range 63 {
		l = append(l, 1<<bit, -1<<bit)
	}
	for _, n := range slices.Clone(l) {
		l = append(l, n-1, n+1)
	}
	return l
}

// P2.1: decimals.

func TestDecimal(t *testing.T) {
	for n, want := range map[int]string{0: "0", 1: "1", -1: "-1", 9: "9", 10: "10", -10: "-10", 100: "100", 1234567890: "1234567890", math.MaxInt: "9223372036854775807", math.MaxInt - 1: "9223372036854775806", math.MinInt: "-9223372036854775808", math.MinInt + 1: "-9223372036854775807"} {
		same(t, want, Decimal(n), want)
	}
	for n := -11000; n <= 11000; n++ {
		same(t, "Decimal", Decimal(n), strconv.Itoa(n))
	}
	for _, n := range edgeInts() {
		same(t, "Decimal", Decimal(n), strconv.Itoa(n))
	}
}

func TestIntOfDecimals(t *testing.T) {
	for s, want := range map[string]int{"0": 0, "1": 1, "-1": -1, "10": 10, "-10": -10, "9223372036854775806": math.MaxInt - 1, "9223372036854775807": math.MaxInt, "-9223372036854775807": math.MinInt + 1, "-9223372036854775808": math.MinInt} {
		if n, ok := Int(s); n != want || !ok {
			t.Error(s, n, ok)
		}
	}
}

func TestIntOfWhatIsNoDecimalOfAnInt(t *testing.T) {
	zeros, ones := strings.Repeat("0", 1000), strings.Repeat("1", 1000)
	for _, s := range []string{
		"", "-", "--", "-0", "00", "-00", "01", "007", "-01", "-007", "0-", "0-1", "+0", "+1", "--1", "-+1", "1-", "1-1", "12-",
		" ", " 1", "1 ", "1 2", "\t1", "1\n", "1\r\n", "\n", "1\x00", "\x001", "a", "1a", "a1", "0x1", "0b1", "0o7", "1_000", "1,000", "1.", "1.0", "1e3", "1/", "/1", "1:", ":1", "١", "१", "−1", "\xff",
		"9223372036854775808", "9223372036854775809", "-9223372036854775809", "-9223372036854775810", "9999999999999999999", "-9999999999999999999",
		// What is an int after a wraparound:
		"18446744073709551615", "18446744073709551616", "18446744073709551617", "-18446744073709551616", "-18446744073709551617", "36893488147419103233", "184467440737095516160",
		zeros, ones, "-" + ones, zeros + "1", "1" + zeros,
	} {
		if n, ok := Int(s); n != 0 || ok {
			t.Errorf("%q: %d, %v", s, n, ok)
		}
	}
}

func TestIntOfEverySingleByte(t *testing.T) {
	for b := range 256 {
		for _, c := range []struct {
			s    string
			want int
		}{{string([]byte{byte(b)}), b - '0'}, {string([]byte{'1', byte(b)}), 10 + b - '0'}, {string([]byte{'1', byte(b), '2'}), 102 + (b-'0')*10}} {
			n, ok := Int(c.s)
			if isDigit := '0' <= b && b <= '9'; ok != isDigit || ok && n != c.want || !ok && n != 0 {
				t.Errorf("%q: %d, %v", c.s, n, ok)
			}
		}
	}
}

var decimals = regexp.MustCompile(`\A(0|-?[1-9][0-9]*)\z`)

func checkInt(t *testing.T, s string) {
	t.Helper()
	want, err := strconv.Atoi(s)
	wantOK := decimals.MatchString(s) && err == nil
	if !wantOK {
		want = 0
	}
	if n, ok := Int(s); n != want || ok != wantOK {
		t.Errorf("%q: %d, %v", s, n, ok)
	}
}

func TestIntOfShortStrings(t *testing.T) {
	each("-0129/:+ a", 5, func(s string) { checkInt(t, s) })
}

func TestIntOfLongNumbers(t *testing.T) {
	rnd := rand.New(rand.NewSource(1))
	for range 20000 {
		b := []byte(strings.Repeat("-", rnd.Intn(2)))
		for range 15 + rnd.Intn(8) {
			b = append(b, byte('0'+rnd.Intn(10)))
		}
		checkInt(t, string(b))
	}
	// All that are close to the limits.
	for _, front := range []string{"", "-"} {
		for i := range 10000 {
			checkInt(t, front+"922337203685477"+strconv.Itoa(10000 + i)[1:])
			checkInt(t, front+"1844674407370955"+strconv.Itoa(10000 + i)[1:])
		}
	}
}

// P2.7: Int inverts Decimal, and accepts nothing else.

func TestIntInvertsDecimal(t *testing.T) {
	l := edgeInts()
	rnd := rand.New(rand.NewSource(2))
	for range 20000 {
		l = append(l, int(rnd.Uint64())>>rnd.Intn(64))
	}
	for _, n := range l {
		if again, ok := Int(Decimal(n)); again != n || !ok {
			t.Error(n, again, ok)
		}
	}
}

func TestIntAcceptsOnlyDecimals(t *testing.T) {
	each("-0189 ", 6, func(s string) {
		if n, ok := Int(s); ok && Decimal(n) != s {
			t.Errorf("%q: %d", s, n)
		}
	})
}

// P2.6: all functions are pure.

func TestCallsAreRepeatable(t *testing.T) {
	all := func() []any {
		n, a := Int("-12")
		m, b := Int("x")
		u, c := Unquote(`"a\n"`)
		v, d := Unquote(`a`)
		return []any{Decimal(-12), n, a, m, b, Quote("a\n"), u, c, v, d, strings.Join(Lines("a\nb"), ","), Unlines([]string{"a", "b"}), strings.Join(Fields(" a b"), ","), Pattern("a*", "ab"), Pattern("a*", "b"), Magic("[a]"), Magic("a"), Plain(`\*`), Escape("*")}
	}
	first := all()
	for range 3 {
		if again := all(); !slices.Equal(again, first) {
			t.Error(again, first)
		}
	}
}

func TestUnlinesLeavesItsArgument(t *testing.T) {
	l := []string{"a", "b\n", "", "d"}
	same(t, "first two", Unlines(l[:2]), "a\nb\n\n")
	same(t, "none", Unlines(l[:0]), "")
	same(t, "the third", Unlines(l[2:3:3]), "\n")
	if !slices.Equal(l, []string{"a", "b\n", "", "d"}) {
		t.Errorf("%q", l)
	}
}

func TestSlicesAreFresh(t *testing.T) {
	for name, split := range map[string]func(string) []string{"Lines": Lines, "Fields": Fields} {
		a := split("a\nb\nc\n")
		b := split("a\nb\nc\n")
		full := a[:cap(a)]
		for i := range full {
			full[i] = "x"
		}
		c := split("a\nb\nc\n")
		if want := []string{"a", "b", "c"}; !slices.Equal(b, want) || !slices.Equal(c, want) {
			t.Errorf("%s: %q %q", name, b, c)
		}
	}
}

// The rows of the chapter's examples, but for those of patterns.

func TestExamples(t *testing.T) {
	if n, ok := Int("-0"); n != 0 || ok {
		t.Error(n, ok)
	}
	if n, ok := Int("007"); n != 0 || ok {
		t.Error(n, ok)
	}
	if n, ok := Int("-9223372036854775808"); n != -9223372036854775808 || !ok {
		t.Error(n, ok)
	}
	same(t, "Quote", Quote(string([]byte{'a', '"', 10, 200})), `"a\"\n\xc8"`)
	if l := Lines("a\n\nb"); !slices.Equal(l, []string{"a", "", "b"}) {
		t.Errorf("%q", l)
	}
	if l := Fields(" a  b\n"); !slices.Equal(l, []string{"a", "b"}) {
		t.Errorf("%q", l)
	}
}
