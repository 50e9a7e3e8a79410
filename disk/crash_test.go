package disk

import (
	"math"
	"strings"
	"testing"

	"taquin/api"
)

// P3.3: Lose, Crash and Start.

func TestWhatSurvives(t *testing.T) {
	parts := []string{strings.Repeat("a", 64), strings.Repeat("b", 64), strings.Repeat("c", 64), strings.Repeat("d", 8)}
	for _, c := range []struct {
		keep []int
		want string // which of the sectors survive
	}{
		{nil, "----"}, {[]int{}, "----"},
		{[]int{0}, "----"}, {[]int{1}, "abcd"}, {[]int{2}, "----"}, {[]int{3}, "abcd"},
		{[]int{-1}, "abcd"}, {[]int{-2}, "----"}, {[]int{-3}, "abcd"},
		{[]int{math.MaxInt}, "abcd"}, {[]int{math.MinInt}, "----"}, {[]int{math.MinInt + 1}, "abcd"},
		{[]int{1, 0}, "a-c-"}, {[]int{0, 1}, "-b-d"}, {[]int{-1, 4}, "a-c-"},
		{[]int{1, 0, 0}, "a--d"}, {[]int{0, 1, 1}, "-bc-"},
		{[]int{0, 0, 0, 1}, "---d"}, {[]int{7, 8, -9, -10}, "a-c-"},
		{[]int{0, 0, 1, 0, 1, 1}, "--c-"}, {[]int{0, 0, 0, 0, 1, 1, 1, 1}, "----"},
	} {
		d := New()
		write(t, d, 0, 0, strings.Join(parts, ""))
		d.Crash(c.keep)
		want, end := "", 0
		for i, p := range parts {
			if c.want[i] == '-' {
				p = zeros(len(p))
			} else {
				end = 64*i + len(p)
			}
			want += p
		}
		d.Start()
		expectFile(t, d, 0, want[:end])
		if t.Failed() {
			t.Fatal(c.keep)
		}
	}
}

func TestWhatSurvivesOfSeveralFiles(t *testing.T) {
	d := New()
	write(t, d, 3, 0, "first")
	write(t, d, 0, 64, "second")
	write(t, d, 3, 64, "third")
	write(t, d, 15, 0, "fourth")
	write(t, d, 3, 0, "FI")
	d.Crash([]int{1, 0, 0, 1})
	d.Start()
	expectFile(t, d, 3, "FIrst"+zeros(59))
	expectFile(t, d, 0, "")
	expectFile(t, d, 15, "fourth")
}

func TestSectorsThatSurviveAreAsTheyAreInTheFile(t *testing.T) {
	d := with(t, "abc")
	write(t, d, 0, 1, "X")
	write(t, d, 0, 64, "Y") // appends bytes 0 to the first sector, which is pending
	expectAfterCrash(t, d, []int{1, 0}, 0, "aXc"+zeros(61))
	expectAfterCrash(t, d, []int{0, 1}, 0, "abc"+zeros(61)+"Y")
	write(t, d, 0, 2, "Z")
	expectAfterCrash(t, d, []int{1, 0}, 0, "aXZ"+zeros(61))
}

func TestNothingIsPendingAfterACrash(t *testing.T) {
	d := with(t, "abc")
	write(t, d, 0, 0, "XYZ")
	write(t, d, 1, 0, "XYZ")
	d.Crash([]int{0, 1})
	d.Start()
	for _, keep := range keeps {
		expectAfterCrash(t, d, keep, 0, "abc")
		expectAfterCrash(t, d, keep, 1, "XYZ")
	}
	write(t, d, 2, 0, "q") // the first in the list
	write(t, d, 0, 0, "Q") // the second one, though it was pending before
	expectAfterCrash(t, d, []int{1, 0}, 2, "q")
	expectAfterCrash(t, d, []int{1, 0}, 0, "abc")
	expectAfterCrash(t, d, []int{0, 1}, 0, "Qbc")
}

func TestCrashOfAMachineThatIsDown(t *testing.T) {
	d := with(t, "abc")
	write(t, d, 0, 0, "XYZ")
	d.Crash(nil)
	d.Lose(1)
	d.Arm(2, []int{1})
	d.Crash([]int{1})
	if !d.Down() {
		t.Error("up")
	}
	d.Start()
	expectFile(t, d, 0, "abc")
	// What was scheduled while the machine was down still is.
	write(t, d, 0, 0, "X")
	expect(t, "Sync", d.Sync(0), api.ErrDown)
	d.Start()
	expectFile(t, d, 0, "Xbc")
	expect(t, "Sync", d.Sync(0), api.ErrLost)
	sync(t, d, 0)
}

func TestLostSyncsStayDue(t *testing.T) {
	d := with(t, "abc")
	d.Lose(3)
	expect(t, "Sync", d.Sync(0), api.ErrLost)
	d.Crash(nil)
	expect(t, "Sync", d.Sync(0), api.ErrDown)
	d.Start()
	expect(t, "Sync", d.Sync(0), api.ErrLost)
	expect(t, "Sync", d.Sync(0), api.ErrLost)
	sync(t, d, 0)
	d.Crash(nil)
	d.Lose(1) // while the machine is down
	d.Start()
	expect(t, "Sync", d.Sync(0), api.ErrLost)
	sync(t, d, 0)
}

func TestStartOfAMachineThatIsUp(t *testing.T) {
	d := with(t, "abc")
	write(t, d, 0, 0, "X")
	d.Lose(1)
	d.Arm(3, []int{1})
	d.Start()
	expectFile(t, d, 0, "Xbc")
	expectAfterCrash(t, d, nil, 0, "abc")
	expectAfterCrash(t, d, []int{1}, 0, "Xbc")
	expect(t, "Sync", d.Sync(0), api.ErrLost)
	write(t, d, 0, 1, "Y")
	expect(t, "Sync", d.Sync(0), api.ErrDown)
	d.Start()
	expectFile(t, d, 0, "XYc")
}

// P3.4: Arm.

func TestArmCountsCalls(t *testing.T) {
	calls := []func(d *Disk) api.Errno{
		func(d *Disk) api.Errno { return d.Write(0, 0, "a") },
		func(d *Disk) api.Errno { return d.Sync(0) },
		func(d *Disk) api.Errno { return d.Truncate(0, 0) },
		func(d *Disk) api.Errno { return d.Write(0, 0, "") },
		func(d *Disk) api.Errno { return d.Sync(-1) },
		func(d *Disk) api.Errno { return d.Sync(1) },
		func(d *Disk) api.Errno { return d.Write(16, 0, "a") },
		func(d *Disk) api.Errno { return d.Write(0, -1, "a") },
		func(d *Disk) api.Errno { return d.Write(0, most, "a") },
		func(d *Disk) api.Errno { return d.Truncate(0, -1) },
		func(d *Disk) api.Errno { return d.Truncate(-1, 0) },
		func(d *Disk) api.Errno { return d.Sync(0) },
	}
	results := []api.Errno{api.OK, api.ErrLost, api.OK, api.OK, api.ErrArg, api.ErrLost, api.ErrArg, api.ErrArg, api.ErrFull, api.ErrArg, api.ErrArg, api.OK}
	for n := range len(calls) + 2 {
		d := New()
		d.Lose(2)
		d.Arm(n, nil)
		for i, call := range calls {
			want := results[i]
			if n > 0 && i >= n-1 {
				want = api.ErrDown
			}
			expect(t, "call", call(d), want)
			if d.Down() != (n > 0 && i >= n-1) {
				t.Errorf("Arm(%d), call %d: down %v", n, i+1, d.Down())
			}
		}
	}
}

func TestArmBelowOne(t *testing.T) {
	for _, n := range []int{0, -1, -2, math.MinInt} {
		d := New()
		d.Arm(n, []int{1})
		for range 5 {
			write(t, d, 0, 0, "a")
			sync(t, d, 0)
		}
		d.Arm(2, []int{1})
		d.Arm(n, []int{1}) // replaces the schedule
		for range 5 {
			write(t, d, 0, 0, "a")
			sync(t, d, 0)
		}
	}
}

func TestArmOfAWrite(t *testing.T) {
	d := with(t, xs(100))
	write(t, d, 0, 0, "A")
	d.Arm(1, []int{0, 1})
	expect(t, "Write", d.Write(0, 60, "BCDEFG"), api.ErrDown)
	if !d.Down() || d.Size(0) != 100 {
		t.Error(d.Down(), d.Size(0))
	}
	d.Start()
	expectFile(t, d, 0, xs(64)+"FG"+xs(34)) // it was performed before the crash
	write(t, d, 0, 0, "A")
	write(t, d, 0, 1, "B")
	sync(t, d, 0) // nothing is scheduled any more
}

func TestArmOfAWriteThatFails(t *testing.T) {
	for _, c := range []struct{ f, at int }{{-1, 0}, {16, 0}, {0, -1}, {0, most}, {0, math.MaxInt}} {
		d := with(t, "abc")
		write(t, d, 0, 0, "X")
		d.Arm(1, []int{1})
		expect(t, "Write", d.Write(c.f, c.at, "q"), api.ErrDown)
		if !d.Down() {
			t.Error("up")
		}
		d.Start()
		expectFile(t, d, 0, "Xbc")
		expectFile(t, d, 15, "")
	}
}

func TestArmOfASync(t *testing.T) {
	d := with(t, "abc")
	write(t, d, 0, 0, "X")
	d.Arm(1, []int{0})
	expect(t, "Sync", d.Sync(0), api.ErrDown)
	d.Start()
	expectFile(t, d, 0, "abc") // it was not performed
	d.Arm(1, nil)
	expect(t, "Sync of no file", d.Sync(16), api.ErrDown)
	if !d.Down() {
		t.Error("up")
	}
}

func TestArmOfASyncThatIsLost(t *testing.T) {
	d := with(t, "abc")
	write(t, d, 0, 0, "X")
	d.Lose(1)
	d.Arm(1, []int{1})
	expect(t, "Sync", d.Sync(0), api.ErrDown)
	d.Start()
	expectFile(t, d, 0, "Xbc")
	expect(t, "the lost sync is still due", d.Sync(0), api.ErrLost)
	sync(t, d, 0)
}

func TestArmOfATruncate(t *testing.T) {
	for _, n := range []int{0, 1, 3, 4, -1} {
		for keep, want := range map[int]string{0: "abc", 1: "Xbc"} {
			d := with(t, "abc")
			write(t, d, 0, 0, "X")
			d.Arm(1, []int{keep})
			expect(t, "Truncate", d.Truncate(0, n), api.ErrDown)
			if !d.Down() {
				t.Error("up")
			}
			d.Start()
			expectFile(t, d, 0, want) // it was not performed
		}
	}
}

func TestArmIsReplaced(t *testing.T) {
	d := with(t, "abc")
	d.Arm(1, []int{0})
	d.Arm(2, []int{1})
	write(t, d, 0, 0, "X")
	d.Arm(2, []int{1})
	write(t, d, 0, 1, "Y")
	expect(t, "Write", d.Write(0, 2, "Z"), api.ErrDown)
	d.Start()
	expectFile(t, d, 0, "XYZ")
	d.Arm(5, nil)
	d.Arm(1, []int{1})
	expect(t, "Write", d.Write(0, 0, "!"), api.ErrDown)
	d.Start()
	expectFile(t, d, 0, "!YZ")
}

func TestArmIsCancelledByACrash(t *testing.T) {
	d := with(t, "abc")
	d.Arm(1, []int{1})
	d.Crash(nil)
	d.Start()
	for range 3 {
		write(t, d, 0, 0, "X")
		sync(t, d, 0)
	}
	d.Arm(1, []int{1})
	expect(t, "Sync", d.Sync(0), api.ErrDown)
	d.Start()
	for range 3 {
		write(t, d, 0, 0, "X")
		sync(t, d, 0)
	}
}

func TestCallsWhileTheMachineIsDownDoNotCount(t *testing.T) {
	d := with(t, "abc")
	d.Crash(nil)
	d.Arm(2, []int{1})
	for range 3 {
		expect(t, "Write", d.Write(0, 0, "q"), api.ErrDown)
		expect(t, "Sync", d.Sync(0), api.ErrDown)
		expect(t, "Truncate", d.Truncate(0, 0), api.ErrDown)
	}
	d.Start()
	write(t, d, 0, 0, "X")
	expect(t, "Write", d.Write(0, 1, "Y"), api.ErrDown)
	d.Start()
	expectFile(t, d, 0, "XYc")
}

func TestArmOfTheGreatestNumber(t *testing.T) {
	d := New()
	d.Arm(math.MaxInt, []int{1})
	for range 100 {
		write(t, d, 0, 0, "a")
		sync(t, d, 0)
	}
}
