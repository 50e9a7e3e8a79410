package cell

import (
	"slices"
	"strconv"
	"testing"

	"taquin/api"
	"taquin/disk"
)

// P4.4: what a crash can leave.

// patterns returns ways in which up to n pending sectors survive: none, all, every other one, each one alone, and all but one.
func patterns(n int) [][]int {
	list := [][]int{nil, {1}, {1, 0}, {0, 1}}
	for i := range n {
		alone, others := make([]int, n), slices.Repeat([]int{1}, n)
		alone[i], others[i] = 1, 0
		list = append(list, alone, others)
	}
	return list
}

// expectOneOf starts the machine, opens the cell of a scene, and checks that it has one of the states.
func expectOneOf(t *testing.T, about string, d *disk.Disk, may []state) *Cell {
	t.Helper()
	d.Start()
	c := open(t, d, fileNo)
	if !slices.Contains(may, stateOf(c)) {
		t.Errorf("%s: %v instead of one of %v", about, stateOf(c), may)
	}
	return c
}

// expectDurable checks that a crash changes nothing of a file whose cell has the value s.
func expectDurable(t *testing.T, about string, d *disk.Disk, s string) {
	t.Helper()
	before := contents(t, d, fileNo)
	for _, keep := range keeps {
		e := afterCrash(d, keep)
		if contents(t, e, fileNo) != before {
			t.Errorf("%s: a crash changed the file", about)
		}
		expectState(t, about, open(t, e, fileNo), is(s))
	}
}

func TestCrashBeforeASet(t *testing.T) {
	eachScene(t, func(t *testing.T, sc *scene) {
		d, _ := sc.make(t)
		for _, keep := range patterns(12) {
			expectOneOf(t, "a crash", afterCrash(d, keep), sc.may)
		}
	})
}

func TestCrashAtEachCallOfASet(t *testing.T) {
	eachScene(t, func(t *testing.T, sc *scene) {
		for _, s := range []string{"", text(1, 10), text(64, 11), text(130, 12), text(400, 13)} {
			list := sc.steps(s)
			for n := range list {
				for _, keep := range patterns(10) {
					about := "call " + strconv.Itoa(n+1) + " of a Set of " + is(s).String()
					d, c := sc.make(t)
					d.Arm(n+1, keep)
					expect(t, about, c.Set(s), api.ErrDown)
					may := sc.may
					if n >= len(list)-2 { // the header was written
						may = append(slices.Clone(may), is(s))
					}
					c = expectOneOf(t, about, d, may)
					set(t, c, value2)
					expectState(t, about+", another Set", c, is(value2))
					expectState(t, about+", another Set, a crash", open(t, afterCrash(d, nil), fileNo), is(value2))
				}
			}
		}
	})
}

// Either state comes about: so the theorem is not kept by a cell that never changes.
func TestCrashesLeaveBothValues(t *testing.T) {
	for _, values := range [][]string{nil, {value1}, {value1, value2}} {
		seen := map[state]bool{}
		old := none
		for _, keep := range []int{0, 1} {
			d, c := newCell(t, values...)
			old = stateOf(c)
			d.Arm(4, []int{keep})
			expect(t, "Set", c.Set(value3), api.ErrDown)
			d.Start()
			seen[stateOf(open(t, d, fileNo))] = true
		}
		if len(seen) != 2 || !seen[old] || !seen[is(value3)] {
			t.Error(seen)
		}
	}
}

func TestCrashesOfLongValues(t *testing.T) {
	old, s := text(Max, 1), text(Max, 2)
	for n := range 5 {
		for _, keep := range [][]int{nil, {1}, {1, 0}, {0, 1}, {0, 0, 0, 0, 0, 1}, {1, 1, 1, 1, 1, 0}} {
			for _, values := range [][]string{nil, {old}, {"a", old}} {
				about := "call " + strconv.Itoa(n)
				d, c := newCell(t, values...)
				may := []state{stateOf(c), is(s)}
				d.Arm(n, keep)
				if err := c.Set(s); err == api.OK {
					may = may[1:]
				}
				d.Crash(keep)
				c = expectOneOf(t, about, d, may)
				set(t, c, old)
				expectDurable(t, about, d, old)
			}
		}
	}
}

// P4.5: what a Set that returned OK leaves.

func TestCrashAfterASet(t *testing.T) {
	eachScene(t, func(t *testing.T, sc *scene) {
		for _, s := range values() {
			d, c := sc.make(t)
			set(t, c, s)
			expectDurable(t, "a Set of "+is(s).String(), d, s)
		}
	})
}

func TestCrashAfterSetsOfTwoCells(t *testing.T) {
	d := disk.New()
	a, b := open(t, d, 0), open(t, d, fileNo)
	for i, s := range values() {
		other := text(300, 50+i)
		set(t, b, s)
		expect(t, "Set", a.Set(other), api.OK)
		expectDurable(t, "Sets", d, s)
		expectState(t, "the other cell", open(t, afterCrash(d, nil), 0), is(other))
	}
}

func TestCrashOfOneOfTwoCells(t *testing.T) {
	for n := 1; n <= 4; n++ {
		for _, keep := range patterns(8) {
			d := disk.New()
			a, b := open(t, d, 15), open(t, d, fileNo)
			set(t, a, value1)
			set(t, b, value2)
			d.Lose(1)
			expect(t, "Set of the other cell", a.Set(value2), api.ErrLost) // whose sectors are pending
			d.Arm(n, keep)
			expect(t, "Set", b.Set(value3), api.ErrDown)
			expectOneOf(t, "the cell", d, []state{is(value2), is(value3)})
			expectState(t, "the other cell", open(t, d, 15), is(value1))
		}
	}
}

// Several crashes and openings one after the other.

func TestCrashesOneAfterTheOther(t *testing.T) {
	ways := [4][]int{nil, {1}, {1, 0}, {0, 1}}
	for _, values := range [][]string{nil, {value1}, {value1, value2}} {
		for n := range 4 * 5 * 5 {
			for i := range 4 * 4 * 4 {
				d, c := newCell(t, values...)
				may := []state{stateOf(c)}
				for round, call := range []int{n%4 + 1, n/4%5 + 1, n/20 + 1} {
					s := text(150+100*round, 20+round)
					d.Arm(call, ways[i>>(2*round)%4])
					if err := c.Set(s); err == api.OK { // a Set without a slot makes four calls
						may = nil
					}
					d.Crash([]int{1})
					c = expectOneOf(t, "a crash", d, append(may, is(s)))
					may = []state{stateOf(c)}
				}
				set(t, c, value3)
				d.Crash(ways[i%4])
				expectOneOf(t, "a crash after a Set", d, []state{is(value3)})
			}
		}
	}
}

func TestOpeningsAndCrashesWithoutASet(t *testing.T) {
	eachScene(t, func(t *testing.T, sc *scene) {
		for _, keep := range keeps {
			d, _ := sc.make(t)
			d.Crash(keep)
			c := expectOneOf(t, "a crash", d, sc.may)
			for range 3 {
				was := stateOf(c)
				d.Crash(keep)
				d.Start()
				c = open(t, d, fileNo)
				expectState(t, "another crash", c, was)
			}
		}
	})
}
