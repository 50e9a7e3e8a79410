package net

import (
	"math"
	"strconv"
	"testing"

	"taquin/api"
)

// P6.3: Split, Heal, Hear, Count and List.

// expectSides checks that an end hears exactly the ends of its side.
func expectSides(t *testing.T, about string, n *Net, side [16]bool) {
	t.Helper()
	for a := range 16 {
		for b := range 16 {
			if n.Hear(a, b) != (side[a] == side[b]) {
				t.Errorf("%s: Hear(%d, %d) is %v", about, a, b, n.Hear(a, b))
			}
		}
	}
}

// sides returns the side of each end, told by the digits of a mask: the leftmost one is that of the end 15.
func sides(digits string) [16]bool {
	var s [16]bool
	for i, d := range digits {
		s[15-i] = d == '1'
	}
	return s
}

func TestSplit(t *testing.T) {
	for _, c := range []struct {
		mask   int
		digits string
	}{
		{0, "0000000000000000"},
		{1, "0000000000000001"},
		{2, "0000000000000010"},
		{3, "0000000000000011"},
		{6, "0000000000000110"},
		{0x5555, "0101010101010101"},
		{0x00ff, "0000000011111111"},
		{0x8000, "1000000000000000"},
		{0x8001, "1000000000000001"},
		{65534, "1111111111111110"},
		{65535, "1111111111111111"},
		{65536, "0000000000000000"},
		{65537, "0000000000000001"},
		{0x12345678, "0101011001111000"},
		{1<<40 + 5, "0000000000000101"},
		{math.MaxInt, "1111111111111111"},
		{math.MaxInt - 1, "1111111111111110"},
		{math.MinInt, "0000000000000000"},
		{math.MinInt + 3, "0000000000000011"},
		{-1, "1111111111111111"},
		{-2, "1111111111111110"},
		{-3, "1111111111111101"},
		{-32768, "1000000000000000"},
		{-65535, "0000000000000001"},
		{-65536, "0000000000000000"},
		{-65537, "1111111111111111"},
	} {
		n := New()
		n.Split(c.mask)
		expectSides(t, strconv.Itoa(c.mask), n, sides(c.digits))
	}
}

func TestEachSplit(t *testing.T) {
	n := New()
	for mask := 0; mask < 1<<16; mask += 37 {
		var s [16]bool
		for e, left := 0, mask; e < 16; e, left = e+1, left/2 {
			s[e] = left%2 == 1
		}
		n.Split(mask)
		expectSides(t, strconv.Itoa(mask), n, s)
		n.Split(65535 - mask) // both sides exchanged
		expectSides(t, strconv.Itoa(65535-mask), n, s)
		if t.Failed() {
			return
		}
	}
}

func TestSplitReplacesTheSplitBefore(t *testing.T) {
	n := New()
	for _, c := range []struct {
		mask   int
		digits string
	}{{1, "0000000000000001"}, {2, "0000000000000010"}, {0x8000, "1000000000000000"}, {0, "0000000000000000"}, {5, "0000000000000101"}, {5, "0000000000000101"}, {65536, "0000000000000000"}} {
		n.Split(c.mask)
		expectSides(t, strconv.Itoa(c.mask), n, sides(c.digits))
	}
}

func TestHeal(t *testing.T) {
	for _, mask := range []int{0, 1, 0x5555, 0x8000, 65535, 65536, -1, -2, math.MinInt, math.MaxInt} {
		n := New()
		n.Split(mask)
		n.Heal()
		expectSides(t, "Heal", n, [16]bool{})
		n.Heal()
		expectSides(t, "Heal again", n, [16]bool{})
		n.Split(4)
		expectSides(t, "Split", n, sides("0000000000000100"))
	}
}

func TestHearOfWhatIsNoEnd(t *testing.T) {
	for _, mask := range []int{0, 1, 0x8000, 65535, 65536, 0x30000, -1, -2, math.MinInt} {
		n := New()
		n.Split(mask)
		for _, e := range noEnds {
			for f := range 16 {
				if n.Hear(e, f) || n.Hear(f, e) {
					t.Error(mask, e, f)
				}
			}
			for _, f := range noEnds { // e itself, too
				if n.Hear(e, f) {
					t.Error(mask, e, f)
				}
			}
		}
	}
}

func TestEachEndHearsItself(t *testing.T) {
	for _, mask := range []int{0, 1, 0x5555, 0x8000, 65535, 65536, -1, -2, math.MinInt} {
		n := New()
		n.Split(mask)
		for e := range 16 {
			if !n.Hear(e, e) {
				t.Error(mask, e)
			}
		}
	}
}

func TestPacketsStayInFlight(t *testing.T) {
	for _, count := range []int{0, 1, 5, Most} {
		list := several(count)
		n := with(t, list...)
		for _, mask := range []int{1, 65535, 0x5555, 0, -2} {
			n.Split(mask)
			expectFlight(t, "Split", n, list...)
			n.Hear(0, 1)
			n.Hear(-1, 16)
			expectFlight(t, "Hear", n, list...)
		}
		n.Heal()
		expectFlight(t, "Heal", n, list...)
	}
}

func TestOtherCallsDoNotSplit(t *testing.T) {
	for _, mask := range []int{0, 6} {
		n := with(t, several(5)...)
		n.Split(mask)
		before := hears(n)
		for i, call := range []func(){
			func() { n.Send(1, 2, "a") }, func() { n.Send(0, 1, "a") }, func() { n.Send(3, 3, "a") },
			func() { n.Deliver(0) }, func() { n.Deliver(1) }, func() { n.Deliver(-1) },
			func() { n.Drop(0) }, func() { n.Double(0) }, func() { n.Count() }, func() { n.List() }, func() { n.Copy() },
		} {
			call()
			if hears(n) != before {
				t.Error("call", i)
			}
		}
	}
}

func TestCountAndListDoNotChangeAnything(t *testing.T) {
	for i, n := range networks(t) {
		want := n.List()
		for range 3 {
			expectFlight(t, "network "+strconv.Itoa(i), n, want...)
		}
	}
}

// P6.4: what is returned is freshly allocated.

func TestTheCallerChangesTheList(t *testing.T) {
	list := several(5)
	n := with(t, list...)
	l := n.List()
	l[0], l[4] = packet(9, 8, "x"), api.Packet{}
	expectFlight(t, "changed", n, list...)
	_ = append(n.List(), packet(9, 8, "x"))
	_ = append(n.List()[:2], packet(9, 8, "x"))
	expectFlight(t, "appended", n, list...)
	a, b := n.List(), n.List()
	a[1] = api.Packet{}
	if b[1] != list[1] {
		t.Error("two lists share memory")
	}
	_ = append(a[:0], b...)
	send(t, n, packet(9, 8, "y"))
	expectFlight(t, "Send", n, joined(list, packet(9, 8, "y"))...)
}

func TestAListStaysWhatItWas(t *testing.T) {
	list := several(5)
	n := with(t, list...)
	l := n.List()
	spare := append(l, packet(3, 2, "spare")) // may use memory behind l
	for i, call := range []func(){
		func() { n.Send(9, 8, "x") }, func() { n.Drop(0) }, func() { n.Deliver(1) }, func() { n.Double(0) }, func() { n.Send(9, 8, "y") },
		func() { n.Split(1) }, func() { n.Heal() }, func() { n.Deliver(4) }, func() { n.Drop(0) }, func() { n.Drop(0) }, func() { n.Drop(0) }, func() { n.Drop(0) }, func() { n.Drop(0) },
	} {
		call()
		for k, p := range list {
			if l[k] != p {
				t.Fatal("call", i, k, l[k])
			}
		}
		if spare[5] != packet(3, 2, "spare") {
			t.Fatal("call", i, spare[5])
		}
	}
	expectFlight(t, "in the end", n)
}
