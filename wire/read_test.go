package wire

import (
	"math"
	"slices"
	"strconv"
	"strings"
	"testing"
)

// A way to read a value of a kind, and to write it again.
type kind struct {
	name string
	read func(r *Reader) (again string, zero bool)
}

var kinds = []kind{
	{"Num", func(r *Reader) (string, bool) { n := r.Num(); return Num(n), n == 0 }},
	{"Int", func(r *Reader) (string, bool) { n := r.Int(); return Int(n), n == 0 }},
	{"Text", func(r *Reader) (string, bool) { s := r.Text(); return Text(s), s == "" }},
	{"Nums", func(r *Reader) (string, bool) { l := r.Nums(); return Nums(l), len(l) == 0 }},
	{"Texts", func(r *Reader) (string, bool) { l := r.Texts(); return Texts(l), len(l) == 0 }},
}

func kindOf(name string) kind {
	return kinds[slices.IndexFunc(kinds, func(k kind) bool { return k.name == name })]
}

// checkFailed checks that all that a failed reader returns is nothing, and goes on to be.
func checkFailed(t *testing.T, r *Reader, about string) {
	t.Helper()
	for range 2 { // the second time after Rest
		for _, k := range kinds {
			if _, zero := k.read(r); !zero {
				t.Errorf("%s: %s returns something", about, k.name)
			}
		}
		if r.Left() != 0 || r.Rest() != "" || r.Done() {
			t.Errorf("%s: left %d, done %v", about, r.Left(), r.Done())
		}
	}
}

// P1.2: what is read, and when a reader fails.

func TestValuesAreReadInOrder(t *testing.T) {
	r := Open("12;-12;0;3:a,b,2[1;-1;]0[]2[0:,1:x,]0[]x")
	if r.Left() != 40 || r.Done() {
		t.Error(r.Left())
	}
	if r.Num() != 12 || r.Left() != 37 || r.Int() != -12 || r.Left() != 33 || r.Int() != 0 || r.Left() != 31 {
		t.Error(r.Left())
	}
	if r.Text() != "a,b" || r.Left() != 25 {
		t.Error(r.Left())
	}
	if !slices.Equal(r.Nums(), []int{1, -1}) || r.Left() != 17 || len(r.Nums()) != 0 || r.Left() != 14 {
		t.Error(r.Left())
	}
	if !slices.Equal(r.Texts(), []string{"", "x"}) || r.Left() != 4 || len(r.Texts()) != 0 || r.Left() != 1 {
		t.Error(r.Left())
	}
	if r.Done() || r.Rest() != "x" || !r.Done() {
		t.Error("rest")
	}
}

func TestTheGreatestAndTheLeastInt(t *testing.T) {
	r := Open("9223372036854775807;9223372036854775807;-9223372036854775808;2[-9223372036854775808;9223372036854775807;]")
	if r.Num() != math.MaxInt || r.Int() != math.MaxInt || r.Int() != math.MinInt || !slices.Equal(r.Nums(), []int{math.MinInt, math.MaxInt}) || !r.Done() {
		t.Error(r.Left())
	}
}

func TestRestOfAReader(t *testing.T) {
	r := Open("1;ab;")
	if r.Num() != 1 || r.Left() != 3 || r.Done() || r.Rest() != "ab;" {
		t.Error("rest")
	}
	if !r.Done() || r.Left() != 0 || r.Rest() != "" || !r.Done() {
		t.Error("after rest")
	}
	if r.Num() != 0 || r.Done() {
		t.Error("reading at the end")
	}
	if r := Open(""); !r.Done() || r.Left() != 0 || r.Rest() != "" || !r.Done() {
		t.Error("empty")
	}
}

func TestLeftAndDoneDoNotRead(t *testing.T) {
	r := Open("5;6;")
	for range 3 {
		if r.Left() != 4 || r.Done() {
			t.Error(r.Left())
		}
	}
	if r.Num() != 5 || r.Left() != 2 || r.Num() != 6 || r.Left() != 0 || !r.Done() || !r.Done() {
		t.Error("moved")
	}
}

func TestWhatIsNoEncoding(t *testing.T) {
	ints := []string{"", ";", "-", "-;", "-0;", "-00;", "-01;", "--1;", "00;", "01;", "007;", "+1;", "1", "-1", "1,", "1:", "1 ;", " 1;", "a;", "1a;", "/;", "1/;", "1:;", "\x001;", "0x1;", "1_0;", "1.;", "١;", "9223372036854775808;", "-9223372036854775809;", "9999999999999999999;", "18446744073709551615;", "18446744073709551616;", "18446744073709551617;", "-18446744073709551617;", "36893488147419103233;", strings.Repeat("1", 1000) + ";", strings.Repeat("0", 1000) + ";", "1:a,", "1[1;]"}
	bad := map[string][]string{
		"Int":   ints,
		"Num":   append([]string{"-1;", "-7;", "-9223372036854775808;"}, ints...),
		"Text":  {"", ":,", "0", "0:", "0,", "0:;", "0;", "00:,", "01:a,", "-0:,", "-1:a,", "+1:a,", "1:", "1:,", "1:a", "1:a;", "1:ab", "1:ab,", "2:a,", "3:a,", "/:a,", "a:a,", "1[a,", "1 :a,", "9223372036854775806:a,", "9223372036854775807:,", "9223372036854775808:,", "18446744073709551616:,", "18446744073709551617:a,", "1;", "0[]"},
		"Nums":  {"", "[]", "0", "0[", "0]", "0[;", "0[0;]", "0[1;]", "00[]", "01[1;]", "-0[]", "-1[]", "1[", "1[]", "1[1]", "1[1;", "1[1;,", "1[1;2;]", "1[-0;]", "1[01;]", "1[9223372036854775808;]", "1[1:a,]", "2[1;]", "2[1;2]", "2[1;,2;]", "3[1;2;]", "0:,", "0;", "18446744073709551616[]", "18446744073709551617[1;]", "9223372036854775807[1;]", "9223372036854775808[]"},
		"Texts": {"", "[]", "0", "0[", "0[;", "0[0:,]", "00[]", "01[0:,]", "-0[]", "-1[]", "1[", "1[]", "1[0:,", "1[0:,;", "1[0:]", "1[1:,]", "1[1;]", "1[00:,]", "1[0:,0:,]", "2[0:,]", "0:,", "0;", "18446744073709551617[0:,]", "9223372036854775807[0:,]", "9223372036854775808[]"},
	}
	for _, k := range kinds {
		for _, s := range bad[k.name] {
			r := Open(s)
			if _, zero := k.read(r); !zero {
				t.Errorf("%s of %q is something", k.name, s)
			}
			checkFailed(t, r, k.name+" of "+s)
		}
	}
}

func TestAFailedReaderStaysFailed(t *testing.T) {
	good := "1;1;1:a,1[1;]1[1:a,]"
	for _, k := range kinds {
		for _, before := range []string{"", "5;", "3:a,b,"} {
			r := Open(before + "x;" + good)
			if before == "5;" && r.Num() != 5 || before == "3:a,b," && r.Text() != "a,b" {
				t.Error(before)
			}
			k.read(r)
			checkFailed(t, r, k.name+" after "+before)
		}
	}
}

func TestNothingIsReadInsteadOfAnotherKind(t *testing.T) {
	for _, c := range []struct{ s, kinds string }{{"1;", "Num Int"}, {"-1;", "Int"}, {"0:,", "Text"}, {"0[]", "Nums Texts"}, {"1[1;]", "Nums"}, {"1[0:,]", "Texts"}} {
		for _, k := range kinds {
			r := Open(c.s)
			k.read(r)
			if r.Done() != slices.Contains(strings.Fields(c.kinds), k.name) {
				t.Errorf("%s of %q: %v", k.name, c.s, r.Done())
			}
		}
	}
}

// A length need not be the number of elements that there are: reading ends with the elements, and takes no more memory than they do.
func TestLengthsFarPastTheEnd(t *testing.T) {
	for _, s := range []string{"9223372036854775807[", "9223372036854775807[]", "9000000000000000000[" + strings.Repeat("0;", 1000), "4611686018427387904[" + strings.Repeat("0:,", 1000) + "]"} {
		r := Open(s)
		if l := r.Nums(); len(l) != 0 {
			t.Error(len(l))
		}
		checkFailed(t, r, s[:20])
		r = Open(s)
		if l := r.Texts(); len(l) != 0 {
			t.Error(len(l))
		}
		checkFailed(t, r, s[:20])
	}
}

// P1.2 and P1.4: all short strings are read as the table of all short encodings says.

// strings up to this length
const short = 6

// each calls f with each string of at most n of the bytes of alphabet.
func each(alphabet string, n int, f func(s string)) {
	level := []string{""}
	for i := 0; ; i++ {
		for _, s := range level {
			f(s)
		}
		if i == n {
			return
		}
		var next []string
		for _, s := range level {
			for j := range len(alphabet) {
				next = append(next, s+alphabet[j:j+1])
			}
		}
		level = next
	}
}

// shortInts returns the encodings of ints that are short.
func shortInts(least int) map[string]bool {
	all := map[string]bool{}
	for n := least; n < 100000; n++ {
		if s := strconv.Itoa(n) + ";"; len(s) <= short {
			all[s] = true
		}
	}
	return all
}

// shortTexts returns the encodings of strings of these bytes that are short.
func shortTexts(alphabet string) map[string]bool {
	all := map[string]bool{}
	each(alphabet, short-3, func(s string) {
		all[strconv.Itoa(len(s))+":"+s+","] = true
	})
	return all
}

// shortLists returns the encodings of lists that are short, whose elements have these encodings.
func shortLists(elements map[string]bool) map[string]bool {
	all := map[string]bool{"0[]": true}
	for e := range elements {
		if len(e) <= short-3 {
			all["1["+e+"]"] = true
		}
		for f := range elements {
			if len(e)+len(f) <= short-3 {
				all["2["+e+f+"]"] = true
			}
		}
	}
	return all
}

func TestAllShortStrings(t *testing.T) {
	const numbers, texts = "-0129;", "012:,[]a"
	small := map[string]bool{}
	for n := -9; n < 100; n++ {
		small[strconv.Itoa(n)+";"] = true
	}
	for _, c := range []struct {
		name, alphabet string
		encodings      map[string]bool
	}{
		{"Num", numbers, shortInts(0)},
		{"Int", numbers, shortInts(-9999)},
		{"Text", texts, shortTexts(texts)},
		{"Nums", numbers + "[]", shortLists(small)},
		{"Texts", texts, shortLists(map[string]bool{"0:,": true})},
	} {
		k := kindOf(c.name)
		each(c.alphabet, short, func(s string) {
			want := prefixIn(s, c.encodings)
			r := Open(s)
			again, zero := k.read(r)
			if want == "" {
				if !zero || r.Left() != 0 || r.Done() || r.Rest() != "" || r.Done() {
					t.Errorf("%s of %q does not fail", c.name, s)
				}
				return
			}
			if again != want || r.Left() != len(s)-len(want) || r.Done() != (s == want) || r.Rest() != s[len(want):] {
				t.Errorf("%s of %q: %q instead of %q", c.name, s, again, want)
			}
		})
	}
}

// prefixIn returns a beginning of s that is one of the encodings, or the empty string.
func prefixIn(s string, encodings map[string]bool) string {
	for i := range len(s) + 1 {
		if encodings[s[:i]] {
			return s[:i]
		}
	}
	return ""
}

// P1.4: what is read has exactly the bytes that were read as its encoding.
func FuzzRead(f *testing.F) {
	for _, s := range []string{"", "12;", "-12;x", "3:a,b,", "2[1;-1;]", "2[0:,1:x,]", "007;", "-0;", "9223372036854775808;", "1[", "9223372036854775807[1;]"} {
		f.Add(s)
	}
	f.Fuzz(func(t *testing.T, s string) {
		for _, k := range kinds {
			r := Open(s)
			again, zero := k.read(r)
			if rest := r.Rest(); again+rest == s && r.Done() {
				continue
			}
			if !zero {
				t.Errorf("%s of %q: %q", k.name, s, again)
			}
			checkFailed(t, r, s)
		}
	})
}
