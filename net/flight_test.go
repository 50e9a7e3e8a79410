package net

import (
	"math"
	"strconv"
	"testing"

	"taquin/api"
)

// P6.2: Deliver, Drop and Double.

func TestNoSuchPacket(t *testing.T) {
	for i, n := range networks(t) { // also in a full one, where ErrNone comes ahead of ErrFull
		about := "network " + strconv.Itoa(i)
		before := n.Copy()
		count := n.Count()
		for _, at := range []int{-1, -2, -count, -count - 1, count, count + 1, 2 * count, Most, Most + 1, 1 << 32, math.MaxInt, math.MinInt, math.MinInt + 1} {
			if 0 <= at && at < count {
				continue
			}
			if p, err := n.Deliver(at); p != (api.Packet{}) || err != api.ErrNone {
				t.Error(about, "Deliver", at, p, err)
			}
			expect(t, about+", Drop", n.Drop(at), api.ErrNone)
			expect(t, about+", Double", n.Double(at), api.ErrNone)
			expectSame(t, about, n, before)
		}
		if t.Failed() {
			t.Fatal(about)
		}
	}
}

// eachIndex makes a test for some packets of lists of several lengths: the first ones, one in the middle and the last ones.
func eachIndex(t *testing.T, test func(n *Net, list []api.Packet, i int)) {
	t.Helper()
	for _, count := range []int{1, 2, 3, 6, Most - 1} {
		list := several(count)
		for i := range count {
			if i < 2 || i == count/2 || i >= count-2 {
				test(with(t, list...), list, i)
			}
		}
	}
}

func TestDeliverEach(t *testing.T) {
	eachIndex(t, func(n *Net, list []api.Packet, i int) {
		if p, err := n.Deliver(i); p != list[i] || err != api.OK {
			t.Error(len(list), i, p, err)
		}
		expectFlight(t, "Deliver", n, without(list, i)...)
	})
}

func TestDropEach(t *testing.T) {
	eachIndex(t, func(n *Net, list []api.Packet, i int) {
		expect(t, "Drop", n.Drop(i), api.OK)
		expectFlight(t, "Drop", n, without(list, i)...)
	})
}

func TestDoubleEach(t *testing.T) {
	eachIndex(t, func(n *Net, list []api.Packet, i int) {
		expect(t, "Double", n.Double(i), api.OK)
		expectFlight(t, "Double", n, joined(list, list[i])...)
	})
}

func TestPacketsAreRemovedOneAfterAnother(t *testing.T) {
	list := several(7)
	for _, order := range [][]int{{0, 0, 0, 0, 0, 0, 0}, {6, 5, 4, 3, 2, 1, 0}, {3, 0, 4, 1, 2, 0, 0}, {1, 1, 1, 3, 1, 1, 0}} {
		n := with(t, list...)
		left := list
		for k, i := range order {
			if k%2 == 0 {
				if p, err := n.Deliver(i); p != left[i] || err != api.OK {
					t.Error(order, k, p, err)
				}
			} else {
				expect(t, "Drop", n.Drop(i), api.OK)
			}
			left = without(left, i)
			expectFlight(t, "left", n, left...)
		}
		expect(t, "nothing is left", n.Drop(0), api.ErrNone)
		send(t, n, packet(7, 8, "again"))
		expectFlight(t, "again", n, packet(7, 8, "again"))
	}
}

func TestDeliverBetweenEndsThatDoNotHearEachOther(t *testing.T) {
	for _, c := range []struct {
		from, to, mask int
		want           api.Errno
	}{
		{0, 1, 1, api.ErrLost}, {1, 0, 1, api.ErrLost}, {0, 15, 1, api.ErrLost}, {14, 15, 1 << 15, api.ErrLost}, {15, 0, 1 << 15, api.ErrLost}, {7, 8, 255, api.ErrLost}, {3, 4, -16, api.ErrLost},
		{0, 1, 0, api.OK}, {0, 1, 3, api.OK}, {0, 1, 65532, api.OK}, {2, 3, 1, api.OK}, {14, 15, 1<<15 | 1<<14, api.OK}, {15, 1, 4, api.OK}, {0, 15, 65535, api.OK}, {0, 1, 65536, api.OK}, {0, 15, -1, api.OK},
	} {
		for i := range 3 { // the packet is the first one, the middle one, or the last one
			list := several(2)
			p := packet(c.from, c.to, "p")
			list = joined(list[:min(i, 2)], joined([]api.Packet{p}, list[min(i, 2):]...)...)
			n := with(t, list...)
			n.Split(c.mask)
			want := p
			if c.want != api.OK {
				want = api.Packet{}
			}
			if got, err := n.Deliver(i); got != want || err != c.want {
				t.Error(c, i, got, err)
			}
			expectFlight(t, "Deliver", n, without(list, i)...)
		}
	}
}

// TestDeliverTellsWhoHearsNow delivers a packet from 0 to 1 after several splits: only the last one counts.
func TestDeliverTellsWhoHearsNow(t *testing.T) {
	const heal = math.MinInt
	for _, c := range []struct {
		splits []int
		want   api.Errno
	}{
		{[]int{1}, api.ErrLost}, {[]int{2}, api.ErrLost}, {[]int{65534}, api.ErrLost}, {[]int{3, 1}, api.ErrLost}, {[]int{heal, 2}, api.ErrLost}, {[]int{1, 2}, api.ErrLost}, {[]int{65536 + 1}, api.ErrLost},
		{[]int{1, heal}, api.OK}, {[]int{1, 0}, api.OK}, {[]int{1, 3}, api.OK}, {[]int{1, 4}, api.OK}, {[]int{1, 65536}, api.OK}, {[]int{2, 65535}, api.OK}, {[]int{1, 2, heal}, api.OK}, {[]int{4}, api.OK}, {[]int{3}, api.OK},
	} {
		n := with(t, packet(0, 1, "a"))
		for _, mask := range c.splits {
			if mask == heal {
				n.Heal()
			} else {
				n.Split(mask)
			}
		}
		want := packet(0, 1, "a")
		if c.want != api.OK {
			want = api.Packet{}
		}
		if p, err := n.Deliver(0); p != want || err != c.want {
			t.Error(c.splits, p, err)
		}
		expectFlight(t, "Deliver", n)
	}
}

func TestWhatIsSentDuringASplitIsLostInTheNextOne(t *testing.T) {
	n := New()
	n.Split(3)
	send(t, n, packet(0, 1, "a"))
	send(t, n, packet(2, 3, "b"))
	n.Split(5)
	if p, err := n.Deliver(0); p != (api.Packet{}) || err != api.ErrLost {
		t.Error(p, err)
	}
	expectFlight(t, "the other one", n, packet(2, 3, "b"))
	n.Heal()
	if p, err := n.Deliver(0); p != packet(2, 3, "b") || err != api.OK {
		t.Error(p, err)
	}
}

func TestWhatWasLostDoesNotComeBack(t *testing.T) {
	n := with(t, packet(0, 1, "a"))
	n.Split(1)
	n.Deliver(0)
	n.Heal()
	expectFlight(t, "Heal", n)
	if p, err := n.Deliver(0); p != (api.Packet{}) || err != api.ErrNone {
		t.Error(p, err)
	}
}

func TestDropAndDoubleDuringASplit(t *testing.T) {
	a, b := packet(0, 1, "a"), packet(1, 2, "b")
	n := with(t, a, b)
	n.Split(1)
	expect(t, "Double", n.Double(0), api.OK)
	expectFlight(t, "Double", n, a, b, a)
	expect(t, "Drop", n.Drop(0), api.OK)
	expectFlight(t, "Drop", n, b, a)
	n.Heal()
	if p, err := n.Deliver(1); p != a || err != api.OK {
		t.Error(p, err)
	}
}

func TestDoubleUpToTheLimit(t *testing.T) {
	for _, mask := range []int{0, 1} {
		list := several(Most - 1)
		n := with(t, list...)
		n.Split(mask)
		expect(t, "500", n.Double(17), api.OK)
		list = joined(list, list[17])
		expectFlight(t, "500", n, list...)
		for _, i := range []int{0, 17, 250, Most - 2, Most - 1} {
			expect(t, "501", n.Double(i), api.ErrFull)
		}
		expectFlight(t, "501", n, list...)
		expect(t, "no such packet", n.Double(Most), api.ErrNone)
		expect(t, "no such packet", n.Double(-1), api.ErrNone)
		expectFlight(t, "no such packet", n, list...)
	}
}

func TestRoomInAFullNetwork(t *testing.T) {
	list := several(Most)
	for _, i := range []int{0, 250, Most - 1} {
		for _, way := range []string{"delivered", "dropped", "lost"} {
			n := with(t, list...)
			switch way {
			case "delivered":
				if p, err := n.Deliver(i); p != list[i] || err != api.OK {
					t.Error(p, err)
				}
			case "dropped":
				expect(t, "Drop", n.Drop(i), api.OK)
			case "lost":
				n.Split(1 << list[i].From)
				if p, err := n.Deliver(i); p != (api.Packet{}) || err != api.ErrLost {
					t.Error(p, err)
				}
				n.Heal()
			}
			left := without(list, i)
			expectFlight(t, way, n, left...)
			p := packet(8, 9, "new")
			if i == 0 {
				expect(t, way, n.Double(5), api.OK)
				p = left[5]
			} else {
				send(t, n, p)
			}
			expectFlight(t, way, n, joined(left, p)...)
			expect(t, way, n.Send(8, 9, "one more"), api.ErrFull)
			expect(t, way, n.Double(0), api.ErrFull)
		}
	}
}

func TestEachOfTheDoubledPacketsIsOneOfItsOwn(t *testing.T) {
	a, b := packet(0, 1, "a"), packet(2, 3, "b")
	n := with(t, a, b)
	expect(t, "Double", n.Double(0), api.OK)
	expect(t, "Double", n.Double(2), api.OK)
	expectFlight(t, "Double", n, a, b, a, a)
	expect(t, "Drop", n.Drop(2), api.OK)
	expectFlight(t, "Drop", n, a, b, a)
	for _, want := range []api.Packet{a, b, a} {
		if p, err := n.Deliver(0); p != want || err != api.OK {
			t.Error(p, err)
		}
	}
	expectFlight(t, "Deliver", n)
}
