package cell

import (
	"strconv"
	"testing"

	"taquin/api"
	"taquin/disk"
)

// P4.3: Set.

// values returns what is set in a scene: values that are shorter and longer than those in the slots, and as long.
func values() []string {
	var list []string
	for i, n := range []int{0, 1, 63, 64, 65, 70, 130, 200, 201, 700} {
		list = append(list, text(n, 10+i))
	}
	return list
}

// fileDiffers reports whether the file of a scene has other bytes on another disk, now or after a crash.
func fileDiffers(t *testing.T, a, b *disk.Disk) bool {
	t.Helper()
	if a.Down() != b.Down() || contents(t, a, fileNo) != contents(t, b, fileNo) {
		return true
	}
	if a.Down() { // then nothing is pending
		return false
	}
	for _, keep := range [][]int{nil, {1, 0}, {0, 1}} {
		if contents(t, afterCrash(a, keep), fileNo) != contents(t, afterCrash(b, keep), fileNo) {
			return true
		}
	}
	return false
}

func TestScenes(t *testing.T) {
	eachScene(t, func(t *testing.T, sc *scene) {
		d, c := sc.make(t)
		expectState(t, "Get", c, sc.now)
		expect(t, "Sync of another file", d.Sync(0), api.OK) // no lost sync is due
	})
}

func TestSetMakesTheCalls(t *testing.T) {
	eachScene(t, func(t *testing.T, sc *scene) {
		for _, s := range values() {
			d, c := sc.make(t)
			want := d.Copy()
			set(t, c, s)
			expect(t, "steps", perform(want, sc.steps(s)), api.OK)
			expectState(t, "Get", c, is(s))
			if fileDiffers(t, d, want) {
				t.Errorf("the file after a Set of %v", is(s))
			}
		}
	})
}

// So the n-th call of the disk is the one that the chapter names: what a crash leaves that comes with it tells.
func TestSetWithACrashAtEachCall(t *testing.T) {
	eachScene(t, func(t *testing.T, sc *scene) {
		for _, s := range []string{"", text(1, 10), text(130, 11), text(400, 12)} {
			list := sc.steps(s)
			for n := 1; n <= len(list); n++ {
				for _, keep := range [][]int{nil, {1}, {1, 0}, {0, 1}} {
					about := "call " + strconv.Itoa(n) + " of a Set of " + is(s).String()
					d, c := sc.make(t)
					want := d.Copy()
					d.Arm(n, keep)
					want.Arm(n, keep)
					expect(t, about, c.Set(s), api.ErrDown)
					expect(t, "steps", perform(want, list), api.ErrDown)
					if fileDiffers(t, d, want) {
						t.Errorf("%s: the file", about)
					}
					now := sc.now
					if n == len(list) { // the header was written
						now = is(s)
					}
					expectState(t, about, c, now)
				}
			}
		}
	})
}

func TestSetMakesNoOtherCalls(t *testing.T) {
	eachScene(t, func(t *testing.T, sc *scene) {
		for _, s := range []string{"", text(100, 10)} {
			d, c := sc.make(t)
			d.Arm(len(sc.steps(s))+1, nil)
			set(t, c, s)
			expect(t, "the call after those of Set", d.Sync(0), api.ErrDown)
		}
	})
}

func TestSetWithALostSync(t *testing.T) {
	eachScene(t, func(t *testing.T, sc *scene) {
		for _, s := range values() {
			d, c := sc.make(t)
			want := d.Copy()
			for range 3 {
				d.Lose(1)
				want.Lose(1)
				expect(t, "Set", c.Set(s), api.ErrLost)
				expect(t, "steps", perform(want, sc.steps(s)), api.ErrLost)
				expectState(t, "after a lost sync", c, sc.now)
				if fileDiffers(t, d, want) {
					t.Errorf("the file after a lost sync in a Set of %v", is(s))
				}
			}
			set(t, c, s)
			expect(t, "steps", perform(want, sc.steps(s)), api.OK)
			expectState(t, "after another Set", c, is(s))
			if fileDiffers(t, d, want) {
				t.Errorf("the file after a lost sync, and a Set of %v", is(s))
			}
		}
	})
}

func TestSetWhileTheMachineIsDown(t *testing.T) {
	eachScene(t, func(t *testing.T, sc *scene) {
		d, c := sc.make(t)
		d.Crash([]int{1})
		for _, s := range []string{"", "a", text(Max, 1)} {
			expect(t, "Set", c.Set(s), api.ErrDown)
			expectState(t, "Get", c, sc.now)
		}
		expect(t, "Set of too much", c.Set(text(Max+1, 1)), api.ErrFull) // ahead of the error of the disk
		expectState(t, "Get", c, sc.now)
	})
}

func TestSetOfTooMuch(t *testing.T) {
	eachScene(t, func(t *testing.T, sc *scene) {
		d, c := sc.make(t)
		before := d.Copy()
		d.Lose(1)
		d.Arm(2, nil)
		for _, n := range []int{Max + 1, Max + 2, 2 * Max, 20 * Max} {
			expect(t, strconv.Itoa(n)+" bytes", c.Set(text(n, 4)), api.ErrFull)
			expectState(t, "Get", c, sc.now)
		}
		expect(t, "a lost sync", d.Sync(0), api.ErrLost)
		expect(t, "a scheduled crash", d.Copy().Sync(0), api.ErrDown)
		d.Arm(0, nil)
		if diff := differ(t, d, before); diff != "" {
			t.Error(diff)
		}
		set(t, c, value1)
		expectState(t, "Get", c, is(value1))
	})
}

func TestSetUpToMax(t *testing.T) {
	d, c := newCell(t)
	want := d.Copy()
	sc := scene{slot: 1}
	for i, n := range []int{Max, Max - 1, Max, Max, 1, 0, Max} {
		s := text(n, i)
		set(t, c, s)
		expect(t, "steps", perform(want, sc.steps(s)), api.OK)
		sc.slot = 3 - sc.slot
		expectState(t, "Get", c, is(s))
		expectState(t, "opened again", open(t, d, fileNo), is(s))
		if fileDiffers(t, d, want) {
			t.Errorf("the file after a Set of %v", is(s))
		}
	}
}

// The bytes of the file after the first, second and third Set, and so on, of values that are shorter and longer than those that stand in the slots.
func TestSlotsTakeTurns(t *testing.T) {
	d, c := newCell(t)
	for i, row := range []struct {
		s, head, slot1, slot2 string
	}{
		{"abcdef", "\x01\x06\x00\x00\x00", "abcdef", ""},
		{"ABCDEF", "\x02\x06\x00\x00\x00", "abcdef", "ABCDEF"},
		{"uvw", "\x01\x03\x00\x00\x00", "uvwdef", "ABCDEF"},
		{"UVWXYZ!", "\x02\x07\x00\x00\x00", "uvwdef", "UVWXYZ!"},
		{"", "\x01\x00\x00\x00\x00", "uvwdef", "UVWXYZ!"},
		{"", "\x02\x00\x00\x00\x00", "uvwdef", "UVWXYZ!"},
		{"0123456789", "\x01\x0a\x00\x00\x00", "0123456789", "UVWXYZ!"},
	} {
		set(t, c, row.s)
		want := row.head + zeros(slot1-5) + row.slot1
		if row.slot2 != "" {
			want += zeros(slot2-len(want)) + row.slot2
		}
		if contents(t, d, fileNo) != want || contents(t, afterCrash(d, nil), fileNo) != want {
			t.Errorf("row %d", i)
		}
		expectState(t, "Get", c, is(row.s))
		expectState(t, "opened again", open(t, d, fileNo), is(row.s))
	}
}

func TestHeadersOfLengths(t *testing.T) {
	for _, n := range []int{0, 1, 255, 256, 257, 0x1234, 0xff00, Max - 1, Max} {
		d, c := newCell(t)
		for slot := 1; slot <= 2; slot++ {
			set(t, c, text(n, slot))
			if got := contents(t, d, fileNo)[:5]; got != head(slot, n) {
				t.Errorf("length %d, slot %d: %q", n, slot, got)
			}
		}
	}
}

func TestSetOfTheValueThatIsThere(t *testing.T) {
	d, c := newCell(t, value1)
	want := d.Copy()
	sc := scene{slot: 2}
	set(t, c, value1)
	expect(t, "steps", perform(want, sc.steps(value1)), api.OK)
	if fileDiffers(t, d, want) {
		t.Error("the file")
	}
}
