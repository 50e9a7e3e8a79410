package net

import (
	"strconv"
	"testing"

	"taquin/api"
)

// P6.4: Copy.

func TestACopyIsEqual(t *testing.T) {
	for i, n := range networks(t) {
		c := n.Copy()
		expectSame(t, "network "+strconv.Itoa(i), c, n)
		expectSame(t, "a copy of the copy", c.Copy(), n)
	}
	for _, mask := range []int{0, 1, 0x5555, 65535, 65536, 65537, -1, -2} {
		n := with(t, several(3)...)
		n.Split(mask)
		expectSame(t, strconv.Itoa(mask), n.Copy(), n)
	}
}

// changes are calls, each of which changes a network in which six packets are in flight between ends from 0 to 7, and whose split is 3.
func changes() []func(n *Net) {
	return []func(n *Net){
		func(n *Net) { n.Send(0, 1, "x") },
		func(n *Net) { n.Deliver(0) },
		func(n *Net) { n.Deliver(3) },
		func(n *Net) { n.Drop(2) },
		func(n *Net) { n.Drop(5) },
		func(n *Net) { n.Double(4) },
		func(n *Net) { n.Split(1) },
		func(n *Net) { n.Heal() },
		func(n *Net) { n.Drop(0); n.Send(6, 7, "y") },
		func(n *Net) {
			for n.Drop(0) == api.OK {
			}
		},
		func(n *Net) {
			for n.Double(0) == api.OK {
			}
		},
	}
}

func TestACopyIsIndependent(t *testing.T) {
	list := several(6)
	for i, change := range changes() {
		n := with(t, list...)
		n.Split(3)
		c, reference := n.Copy(), hears(n)
		change(c)
		about := "change " + strconv.Itoa(i)
		expectFlight(t, about+" of the copy", n, list...)
		if hears(n) != reference {
			t.Error(about, "of the copy splits the network")
		}
		c = n.Copy()
		change(n)
		expectFlight(t, about+" of the network", c, list...)
		if hears(c) != reference {
			t.Error(about, "of the network splits the copy")
		}
		expectDiffers(t, about, n, c)
	}
}

// expectDiffers checks that a change was one, so that it would be seen.
func expectDiffers(t *testing.T, about string, n, before *Net) {
	t.Helper()
	a, b := n.List(), before.List()
	same := len(a) == len(b) && hears(n) == hears(before)
	for i := 0; same && i < len(a); i++ {
		same = a[i] == b[i]
	}
	if same {
		t.Error(about, "changes nothing")
	}
}

func TestPacketsOfACopyAreNotThoseOfTheNetwork(t *testing.T) {
	for count := range 70 { // so that there is memory left behind the packets for some of these numbers
		list := several(count)
		n := with(t, list...)
		c := n.Copy()
		d := c.Copy()
		send(t, n, packet(0, 1, "network"))
		send(t, c, packet(0, 1, "copy"))
		expect(t, "Send", d.Send(0, 1, "copy of the copy"), api.OK)
		expectFlight(t, "network", n, joined(list, packet(0, 1, "network"))...)
		expectFlight(t, "copy", c, joined(list, packet(0, 1, "copy"))...)
		expectFlight(t, "copy of the copy", d, joined(list, packet(0, 1, "copy of the copy"))...)
	}
}

func TestACopyOfAFullNetwork(t *testing.T) {
	n := with(t, several(Most)...)
	c := n.Copy()
	expect(t, "Send", c.Send(0, 1, "x"), api.ErrFull)
	expect(t, "Drop", c.Drop(0), api.OK)
	expect(t, "Send", c.Send(0, 1, "x"), api.OK)
	expect(t, "Send", n.Send(0, 1, "x"), api.ErrFull)
	expectFlight(t, "network", n, several(Most)...)
	expectFlight(t, "copy", c, joined(without(several(Most), 0), packet(0, 1, "x"))...)
}
