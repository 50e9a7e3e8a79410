package wire

import (
	"math"
	"math/rand"
	"slices"
	"strconv"
	"strings"
	"testing"
)

var edgeInts = []int{0, 1, -1, 7, -7, 9, -9, 10, -10, 99, 100, -100, 300, 101, 1000000, math.MaxInt - 1, math.MaxInt, math.MinInt + 1, math.MinInt}

var edgeTexts = []string{"", "a", "a,b", ",", ";", ":", "0", "0;", "-7;", "0:,", "1:a,", "3:a,b,", "0[]", "2[1;-1;]", "]", "\x00", "\n", "\xff\xfe", "é", strings.Repeat("x", 9), strings.Repeat("y", 10), strings.Repeat("1:a,", 250)}

func same(t *testing.T, got, want string) {
	t.Helper()
	if got != want {
		t.Errorf("%q instead of %q", got, want)
	}
}

// P1.1: the encodings.

func TestNumIsDigitsOrEmpty(t *testing.T) {
	for _, n := range edgeInts {
		if n < 0 {
			same(t, Num(n), "")
		} else {
			same(t, Num(n), strconv.Itoa(n)+";")
		}
	}
	same(t, Num(0), "0;")
	same(t, Num(300), "300;")
	same(t, Num(math.MaxInt), "9223372036854775807;")
	same(t, Num(-1), "")
	same(t, Num(math.MinInt), "")
}

func TestIntHasASignIfItIsNegative(t *testing.T) {
	for _, n := range edgeInts {
		same(t, Int(n), strconv.Itoa(n)+";")
	}
	for n := -1100; n <= 1100; n++ {
		same(t, Int(n), strconv.Itoa(n)+";")
	}
	same(t, Int(0), "0;")
	same(t, Int(-7), "-7;")
	same(t, Int(math.MaxInt), "9223372036854775807;")
	same(t, Int(math.MinInt), "-9223372036854775808;")
}

func TestTextHasItsLengthInBytes(t *testing.T) {
	for _, s := range edgeTexts {
		same(t, Text(s), strconv.Itoa(len(s))+":"+s+",")
	}
	same(t, Text(""), "0:,")
	same(t, Text("a,b"), "3:a,b,")
	same(t, Text("é"), "2:é,")
	same(t, Text("0123456789"), "10:0123456789,")
}

func TestNumsHasTheEncodingsOfInts(t *testing.T) {
	same(t, Nums(nil), "0[]")
	same(t, Nums([]int{}), "0[]")
	same(t, Nums([]int{0}), "1[0;]")
	same(t, Nums([]int{1, -1}), "2[1;-1;]")
	same(t, Nums([]int{3, 1, 2, 3}), "4[3;1;2;3;]")
	same(t, Nums([]int{math.MinInt, math.MaxInt}), "2[-9223372036854775808;9223372036854775807;]")
	same(t, Nums(make([]int, 12)), "12["+strings.Repeat("0;", 12)+"]")
}

func TestTextsHasTheEncodingsOfStrings(t *testing.T) {
	same(t, Texts(nil), "0[]")
	same(t, Texts([]string{}), "0[]")
	same(t, Texts([]string{""}), "1[0:,]")
	same(t, Texts([]string{"", "x", "a,b"}), "3[0:,1:x,3:a,b,]")
	same(t, Texts([]string{"]", "0[]"}), "2[1:],3:0[],]")
	same(t, Texts(make([]string, 10)), "10["+strings.Repeat("0:,", 10)+"]")
}

// P1.3: memory.

func TestArgumentsAreNotModified(t *testing.T) {
	nums := []int{1, -2, 3, 4}
	Nums(nums[:2])
	if !slices.Equal(nums, []int{1, -2, 3, 4}) {
		t.Error(nums)
	}
	texts := []string{"a", "", "c", "d"}
	Texts(texts[:2])
	if !slices.Equal(texts, []string{"a", "", "c", "d"}) {
		t.Error(texts)
	}
}

func TestElementsBeyondTheLengthAreNotWritten(t *testing.T) {
	nums := []int{1, 2, 3}
	same(t, Nums(nums[:1]), "1[1;]")
	same(t, Nums(nums[1:2]), "1[2;]")
	texts := []string{"a", "b", "c"}
	same(t, Texts(texts[:1]), "1[1:a,]")
	same(t, Texts(texts[:0]), "0[]")
}

func TestListsThatAreReadShareNothing(t *testing.T) {
	s := Nums([]int{1, 2, 3}) + Nums([]int{4, 5}) + Nums([]int{1, 2, 3})
	r := Open(s)
	a, b := r.Nums(), r.Nums()
	full := a[:cap(a)]
	for i := range full {
		full[i] = 9
	}
	if c := r.Nums(); !slices.Equal(b, []int{4, 5}) || !slices.Equal(c, []int{1, 2, 3}) {
		t.Error(b, c)
	}
	if again := Open(s).Nums(); !slices.Equal(again, []int{1, 2, 3}) {
		t.Error(again)
	}
	u := Texts([]string{"a", "b"})
	v := Open(u + u)
	c, d := v.Texts(), v.Texts()
	c[0], c[1] = "x", "y"
	if !slices.Equal(d, []string{"a", "b"}) {
		t.Error(d)
	}
}

func TestReadersAreIndependent(t *testing.T) {
	s := Num(1) + Num(2)
	a, b := Open(s), Open(s)
	if a.Text() != "" || a.Done() || b.Num() != 1 || b.Num() != 2 || !b.Done() {
		t.Error(b.Left())
	}
}

// P1.5: encodings are concatenated and nested.

func TestConcatenation(t *testing.T) {
	for _, a := range edgeTexts {
		for _, b := range edgeTexts {
			r := Open(Text(a) + Texts([]string{b, a}) + Text(b))
			if r.Text() != a || !slices.Equal(r.Texts(), []string{b, a}) || r.Text() != b || !r.Done() {
				t.Errorf("%q %q", a, b)
			}
		}
	}
}

func TestNesting(t *testing.T) {
	inner := Text("a,b") + Nums([]int{1, -1}) + Texts([]string{"]", "", "1:x,"}) + Int(-12)
	outer := Texts([]string{inner, Text(inner), Texts([]string{inner})}) + Text(inner) + Num(5)
	r := Open(outer)
	l := r.Texts()
	if len(l) != 3 || l[0] != inner || r.Text() != inner || r.Num() != 5 || !r.Done() {
		t.Fatalf("%q", l)
	}
	if again := Open(l[1]).Text(); again != inner {
		t.Errorf("%q", again)
	}
	if again := Open(l[2]).Texts(); !slices.Equal(again, []string{inner}) {
		t.Errorf("%q", again)
	}
	r = Open(l[0])
	if r.Text() != "a,b" || !slices.Equal(r.Nums(), []int{1, -1}) || !slices.Equal(r.Texts(), []string{"]", "", "1:x,"}) || r.Int() != -12 || !r.Done() {
		t.Errorf("%q", l[0])
	}
}

func TestAStringMayHaveAnyBytes(t *testing.T) {
	for c := range 256 {
		s := string([]byte{byte(c), ',', byte(c)})
		r := Open(Text(s) + Texts([]string{s, s}))
		if r.Text() != s || !slices.Equal(r.Texts(), []string{s, s}) || !r.Done() {
			t.Errorf("%q", s)
		}
	}
}

// P1.4: reading inverts writing, and no encoding is a prefix of another one.

func TestReadingInvertsWriting(t *testing.T) {
	for _, n := range edgeInts {
		if r := Open(Int(n)); r.Int() != n || !r.Done() {
			t.Error(n)
		}
		if r := Open(Num(n)); n >= 0 && (r.Num() != n || !r.Done()) {
			t.Error(n)
		}
	}
	for _, s := range edgeTexts {
		if r := Open(Text(s)); r.Text() != s || !r.Done() {
			t.Errorf("%q", s)
		}
	}
	for i := range edgeInts {
		if r := Open(Nums(edgeInts[i:])); !slices.Equal(r.Nums(), edgeInts[i:]) || !r.Done() {
			t.Error(i)
		}
	}
	for i := range edgeTexts {
		if r := Open(Texts(edgeTexts[:i])); !slices.Equal(r.Texts(), edgeTexts[:i]) || !r.Done() {
			t.Error(i)
		}
	}
}

func TestReadingInvertsWritingOfRandomValues(t *testing.T) {
	rnd := rand.New(rand.NewSource(1))
	for range 2000 {
		n := int(rnd.Uint64()) >> rnd.Intn(64)
		nums := make([]int, rnd.Intn(12))
		for i := range nums {
			nums[i] = int(rnd.Uint64()) >> rnd.Intn(64)
		}
		texts := make([]string, rnd.Intn(12))
		for i := range texts {
			b := make([]byte, rnd.Intn(120))
			rnd.Read(b)
			texts[i] = string(b)
		}
		r := Open(Int(n) + Nums(nums) + Texts(texts) + "x")
		if r.Int() != n || !slices.Equal(r.Nums(), nums) || !slices.Equal(r.Texts(), texts) || r.Left() != 1 {
			t.Fatal(n, nums, texts)
		}
	}
}

func TestReadingInvertsWritingOfLongLists(t *testing.T) {
	nums := make([]int, 100000)
	texts := make([]string, len(nums))
	for i := range nums {
		nums[i] = i - 50000
		texts[i] = strconv.Itoa(i)
	}
	r := Open(Nums(nums) + Texts(texts))
	if !slices.Equal(r.Nums(), nums) || !slices.Equal(r.Texts(), texts) || !r.Done() {
		t.Error(r.Left())
	}
}

func TestNoEncodingIsAPrefix(t *testing.T) {
	var nums, ints, texts, numLists, textLists []string
	for _, n := range append([]int{2, 20, 200, -1, -11, -111, 92, 922}, edgeInts...) {
		if n >= 0 {
			nums = append(nums, Num(n))
		}
		ints = append(ints, Int(n))
		numLists = append(numLists, Nums([]int{n}), Nums([]int{n, 0}), Nums([]int{0, n}))
	}
	for _, s := range edgeTexts {
		texts = append(texts, Text(s))
		textLists = append(textLists, Texts([]string{s}), Texts([]string{s, "a"}), Texts([]string{"z", s}))
	}
	for _, l := range [][]string{nums, ints, texts, append(numLists, Nums(nil)), append(textLists, Texts(nil))} {
		slices.Sort(l)
		l = slices.Compact(l)
		for i := range len(l) - 1 {
			// In sorted order, a prefix stands right before a string that begins with it.
			if strings.HasPrefix(l[i+1], l[i]) {
				t.Errorf("%q %q", l[i], l[i+1])
			}
		}
	}
}
