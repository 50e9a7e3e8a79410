package net

import (
	"math"
	"strconv"
	"strings"
	"testing"

	"taquin/api"
)

// The numbers of no end. The remainders of some of them, divided by 16, 32 or 64, would be ends.
var noEnds = []int{-1, 16, 17, -2, -15, -16, 31, 32, 63, 64, 65, 1 << 16, 1 << 32, 1<<32 + 1, math.MaxInt, math.MinInt, math.MinInt + 1}

func expect(t *testing.T, about string, got, want api.Errno) {
	t.Helper()
	if got != want {
		t.Errorf("%s: error %d instead of %d", about, got, want)
	}
}

func packet(from, to int, body string) api.Packet {
	return api.Packet{From: from, To: to, Body: body}
}

func send(t *testing.T, n *Net, p api.Packet) {
	t.Helper()
	expect(t, "Send", n.Send(p.From, p.To, p.Body), api.OK)
}

// with returns a network in which packets are in flight.
func with(t *testing.T, packets ...api.Packet) *Net {
	t.Helper()
	n := New()
	for _, p := range packets {
		send(t, n, p)
	}
	return n
}

// several returns packets, each with other ends and another body.
func several(count int) []api.Packet {
	var l []api.Packet
	for i := range count {
		l = append(l, packet(i%16, (i+1+i/16%15)%16, strconv.Itoa(i)))
	}
	return l
}

// without returns a list without the element with the index i.
func without(l []api.Packet, i int) []api.Packet {
	var out []api.Packet
	for j, p := range l {
		if j != i {
			out = append(out, p)
		}
	}
	return out
}

// joined returns a list with further packets at its end.
func joined(l []api.Packet, further ...api.Packet) []api.Packet {
	var out []api.Packet
	out = append(out, l...)
	return append(out, further...)
}

// expectFlight checks which packets are in flight.
func expectFlight(t *testing.T, about string, n *Net, want ...api.Packet) {
	t.Helper()
	got := n.List()
	if n.Count() != len(want) || len(got) != len(want) {
		t.Fatalf("%s: %d packets, a list of %d, instead of %d", about, n.Count(), len(got), len(want))
	}
	for i := range want {
		if got[i] != want[i] {
			t.Fatalf("%s: packet %d is %v instead of %v", about, i, got[i], want[i])
		}
	}
}

// hears returns which of the numbers from -1 to 16 hear each other.
func hears(n *Net) [18][18]bool {
	var table [18][18]bool
	for a := range 18 {
		for b := range 18 {
			table[a][b] = n.Hear(a-1, b-1)
		}
	}
	return table
}

// expectSame checks that a network is what another one is.
func expectSame(t *testing.T, about string, n, want *Net) {
	t.Helper()
	expectFlight(t, about, n, want.List()...)
	if hears(n) != hears(want) {
		t.Errorf("%s: other ends hear each other", about)
	}
}

// networks returns a network of each kind: the ends 0 and 1 hear each other in all of them, and so do 14 and 15; both are on one side of those that are split.
func networks(t *testing.T) []*Net {
	t.Helper()
	var l []*Net
	for _, count := range []int{0, 1, 3, Most - 1, Most} {
		for _, mask := range []int{0, 3, 1<<14 | 1<<15} {
			n := with(t, several(count)...)
			n.Split(mask)
			l = append(l, n)
		}
	}
	return l
}

// The constants and the rows of the chapter's examples.

func TestConstants(t *testing.T) {
	if Most != 500 || Ends != 16 {
		t.Error(Most, Ends)
	}
}

func TestExampleOfReordering(t *testing.T) {
	n := with(t, packet(0, 1, "a"), packet(0, 2, "b"))
	for _, c := range []struct {
		i    int
		want api.Packet
	}{{1, packet(0, 2, "b")}, {0, packet(0, 1, "a")}} {
		if p, err := n.Deliver(c.i); p != c.want || err != api.OK {
			t.Error(c.i, p, err)
		}
	}
	expectFlight(t, "in the end", n)
}

func TestExampleOfALostPacket(t *testing.T) {
	n := with(t, packet(0, 1, "a"))
	n.Split(1)
	if p, err := n.Deliver(0); p != (api.Packet{}) || err != api.ErrLost {
		t.Error(p, err)
	}
	expectFlight(t, "in the end", n)
}

func TestExampleOfASplit(t *testing.T) {
	n := New()
	n.Split(3)
	expect(t, "0 to 1", n.Send(0, 1, "a"), api.OK)
	expect(t, "1 to 2", n.Send(1, 2, "b"), api.ErrLost)
	expectFlight(t, "in the end", n, packet(0, 1, "a"))
}

// P6.1: New and Send.

func TestNewNetwork(t *testing.T) {
	n := New()
	expectFlight(t, "New", n)
	for a := range 16 {
		for b := range 16 {
			if !n.Hear(a, b) {
				t.Error("Hear", a, b)
			}
		}
	}
	send(t, n, packet(0, 1, "a"))
	n.Split(1)
	other := New()
	expectFlight(t, "another one", other)
	if !other.Hear(0, 1) {
		t.Error("the other one is split")
	}
}

func TestSendFromEachEndToEachOther(t *testing.T) {
	n := New()
	var want []api.Packet
	for from := range 16 {
		for to := range 16 {
			if from == to {
				continue
			}
			p := packet(from, to, strconv.Itoa(from)+" "+strconv.Itoa(to))
			send(t, n, p)
			want = append(want, p)
			expectFlight(t, "Send", n, want...)
		}
	}
}

func TestBodies(t *testing.T) {
	long := strings.Repeat("0123456789\x00\n", 100000)
	for _, body := range []string{"", "a", "\x00", "\n", "a\x00b\nc", "\xff\xfe", "é", " ", "0", long, long + "x"} {
		p := packet(3, 4, body)
		n := with(t, p)
		expectFlight(t, "Send", n, p)
		expect(t, "Double", n.Double(0), api.OK)
		expectFlight(t, "Double", n, p, p)
		for range 2 {
			if got, err := n.Deliver(0); got != p || err != api.OK {
				t.Errorf("%d bytes: %d bytes, %d", len(body), len(got.Body), err)
			}
		}
	}
}

func TestSendWhereAnEndIsNone(t *testing.T) {
	for i, n := range networks(t) {
		about := "network " + strconv.Itoa(i)
		before := n.Copy()
		for _, e := range noEnds {
			for _, f := range []int{0, 1, 2, 14, 15} {
				expect(t, about+", from "+strconv.Itoa(e), n.Send(e, f, "x"), api.ErrArg)
				expect(t, about+", to "+strconv.Itoa(e), n.Send(f, e, "x"), api.ErrArg)
			}
			for _, f := range noEnds {
				expect(t, about+", both", n.Send(e, f, "x"), api.ErrArg)
			}
		}
		expectSame(t, about, n, before)
	}
}

func TestSendToItself(t *testing.T) {
	for i, n := range networks(t) {
		before := n.Copy()
		for e := range 16 {
			expect(t, "Send", n.Send(e, e, "x"), api.ErrArg)
			expect(t, "Send", n.Send(e, e, ""), api.ErrArg)
		}
		expectSame(t, "network "+strconv.Itoa(i), n, before)
	}
}

func TestSendToAnEndThatDoesNotHear(t *testing.T) {
	for _, count := range []int{0, 1, Most - 1, Most} { // ErrLost comes ahead of ErrFull
		for _, c := range []struct{ mask, a, b int }{
			{1, 0, 1}, {1, 0, 15}, {3, 1, 2}, {1 << 15, 15, 0}, {1 << 15, 15, 14}, {65534, 0, 7}, {0x5555, 8, 9}, {-2, 0, 1},
		} {
			n := with(t, several(count)...)
			n.Split(c.mask)
			before := n.Copy()
			expect(t, "Send", n.Send(c.a, c.b, "x"), api.ErrLost)
			expect(t, "back", n.Send(c.b, c.a, "x"), api.ErrLost)
			expectSame(t, "Send", n, before)
		}
	}
}

func TestSendOnEachSide(t *testing.T) {
	n := New()
	n.Split(1<<2 | 1<<9)
	want := []api.Packet{packet(2, 9, "inside"), packet(9, 2, "back"), packet(3, 15, "outside"), packet(15, 0, "and on")}
	for _, p := range want {
		send(t, n, p)
	}
	expectFlight(t, "Send", n, want...)
}

func TestSendUpToTheLimit(t *testing.T) {
	for _, mask := range []int{0, 1, 65535} {
		list := several(Most - 1)
		n := with(t, list...)
		n.Split(mask)
		last := packet(4, 5, "last")
		send(t, n, last)
		list = joined(list, last)
		expectFlight(t, "500", n, list...)
		for range 3 {
			expect(t, "501", n.Send(4, 5, "x"), api.ErrFull)
			expect(t, "501", n.Send(5, 4, ""), api.ErrFull)
		}
		expectFlight(t, "501", n, list...)
	}
}

func TestEqualPacketsAreSentTwice(t *testing.T) {
	p, q := packet(1, 2, "a"), packet(2, 1, "a")
	n := with(t, p, q, p, p)
	expectFlight(t, "Send", n, p, q, p, p)
	for i, want := range []api.Packet{p, q, p, p} {
		if got, err := n.Deliver(0); got != want || err != api.OK {
			t.Error(i, got, err)
		}
	}
	expectFlight(t, "Deliver", n)
}
