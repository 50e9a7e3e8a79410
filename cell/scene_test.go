package cell

import (
	"testing"

	"taquin/api"
	"taquin/disk"
)

// fileNo is the file of the cell in a scene.
const fileNo = 5

// What is set before and in a scene.
var value1, value2, value3 = text(130, 1), text(200, 2), text(70, 3)

// scene is what is there before a Set.
type scene struct {
	name string
	make func(t *testing.T) (*disk.Disk, *Cell)
	sync bool    // the Set begins with a Sync
	slot int     // the slot that it writes
	now  state   // what Get returns
	may  []state // what a crash can leave
}

// step is a call of the disk.
type step struct {
	sync bool
	at   int
	s    string
}

// steps returns the calls of a Set of s.
func (sc *scene) steps(s string) []step {
	var list []step
	if sc.sync {
		list = append(list, step{sync: true})
	}
	at := []int{1: slot1, 2: slot2}[sc.slot]
	return append(list, step{at: at, s: s}, step{sync: true}, step{at: 0, s: head(sc.slot, len(s))}, step{sync: true})
}

// perform makes calls up to the first one that returns an error, and returns this error.
func perform(d *disk.Disk, list []step) api.Errno {
	for _, p := range list {
		err := api.Errno(api.OK)
		if p.sync {
			err = d.Sync(fileNo)
		} else {
			err = d.Write(fileNo, p.at, p.s)
		}
		if err != api.OK {
			return err
		}
	}
	return api.OK
}

// newCell returns a cell in a new file, after a Set of each of the values.
func newCell(t *testing.T, values ...string) (*disk.Disk, *Cell) {
	t.Helper()
	d := disk.New()
	c := open(t, d, fileNo)
	for _, s := range values {
		set(t, c, s)
	}
	return d, c
}

// loseFirstSync calls Set, with its first Sync lost.
func loseFirstSync(t *testing.T, d *disk.Disk, c *Cell) {
	t.Helper()
	d.Lose(1)
	expect(t, "Set", c.Set(value3), api.ErrLost)
}

// loseMiddleSync does what Set does, with the Sync of step 3 lost, but not that of step 1. (Lose cannot be called during a Set, and a lost sync that is due is always the next one.)
func loseMiddleSync(t *testing.T, d *disk.Disk, c *Cell) {
	t.Helper()
	expect(t, "step 1", c.settle(), api.OK)
	d.Lose(1)
	expect(t, "step 3", c.replace(value3), api.ErrLost)
}

// loseLastSync does what Set does, with only the Sync of step 5 lost.
func loseLastSync(t *testing.T, d *disk.Disk, c *Cell) {
	t.Helper()
	expect(t, "step 1", c.settle(), api.OK)
	expect(t, "steps 2 to 4", c.replace(value3), api.OK)
	d.Lose(1)
	expect(t, "step 5", c.settle(), api.ErrLost)
}

// after returns how to make the scene after a Set of each of the values, and what is then done with the cell.
func after(values []string, then ...func(t *testing.T, d *disk.Disk, c *Cell)) func(t *testing.T) (*disk.Disk, *Cell) {
	return func(t *testing.T) (*disk.Disk, *Cell) {
		t.Helper()
		d, c := newCell(t, values...)
		for _, f := range then {
			f(t, d, c)
		}
		return d, c
	}
}

// reopen opens the cell of a scene again.
func reopen(t *testing.T, d *disk.Disk, c *Cell) {
	t.Helper()
	*c = *open(t, d, fileNo)
}

// crashAndReopen lets the machine crash without pending sectors that survive, and opens the cell of a scene again.
func crashAndReopen(t *testing.T, d *disk.Disk, c *Cell) {
	t.Helper()
	d.Crash(nil)
	d.Start()
	reopen(t, d, c)
}

// setTooLong calls Set, which returns ErrFull.
func setTooLong(t *testing.T, d *disk.Disk, c *Cell) {
	t.Helper()
	expect(t, "Set", c.Set(text(Max+1, 4)), api.ErrFull)
}

// opened returns how to make the scene in which the cell in a file that contains s was opened.
func opened(s string) func(t *testing.T) (*disk.Disk, *Cell) {
	return func(t *testing.T) (*disk.Disk, *Cell) {
		t.Helper()
		d := with(t, fileNo, s)
		return d, open(t, d, fileNo)
	}
}

// scenes returns all scenes.
func scenes() []scene {
	no, one, two := []string{}, []string{value1}, []string{value1, value2}
	v1, v2, v3 := is(value1), is(value2), is(value3)
	return []scene{
		{"a new file", after(no), false, 1, none, []state{none}},
		{"a first byte 0", opened("\x00"), false, 1, none, []state{none}},
		{"a first byte 0 before others", opened(image("\x00\x01\x02\x03\x04", 300)), false, 1, none, []state{none}},
		{"one Set", after(one), false, 2, v1, []state{v1}},
		{"two Sets", after(two), false, 1, v2, []state{v2}},
		{"three Sets", after([]string{value2, value3, value1}), false, 2, v1, []state{v1}},
		{"an empty value", after([]string{""}), false, 2, is(""), []state{is("")}},
		{"an empty value in the slot 2", after([]string{value1, ""}), false, 1, is(""), []state{is("")}},
		{"a Set of too much", after(one, setTooLong), false, 2, v1, []state{v1}},

		{"opened, the slot 1", after(one, reopen), true, 2, v1, []state{v1}},
		{"opened, the slot 2", after(two, reopen), true, 1, v2, []state{v2}},
		{"opened after a crash, the slot 1", after(one, crashAndReopen), true, 2, v1, []state{v1}},
		{"opened after a crash, the slot 2", after(two, crashAndReopen), true, 1, v2, []state{v2}},
		{"opened, a header alone, the slot 1", opened(head(1, 0)), true, 2, is(""), []state{is("")}},
		{"opened, a header alone, the slot 2", opened(head(2, 0)), true, 1, is(""), []state{is("")}},
		{"opened, a Set of too much", after(one, reopen, setTooLong), true, 2, v1, []state{v1}},

		{"step 1 lost, the slot 1", after(one, reopen, loseFirstSync), true, 2, v1, []state{v1}},
		{"step 1 lost, the slot 2", after(two, reopen, loseFirstSync), true, 1, v2, []state{v2}},
		{"step 1 lost twice", after(two, reopen, loseFirstSync, loseFirstSync), true, 1, v2, []state{v2}},

		{"step 3 lost, no slot", after(no, loseFirstSync), false, 1, none, []state{none}},
		{"step 3 lost, no slot, opened", after(no, loseFirstSync, reopen), false, 1, none, []state{none}},
		{"step 3 lost, the slot 1", after(one, loseFirstSync), false, 2, v1, []state{v1}},
		{"step 3 lost, the slot 2", after(two, loseFirstSync), false, 1, v2, []state{v2}},
		{"step 3 lost twice", after(two, loseFirstSync, loseFirstSync), false, 1, v2, []state{v2}},
		{"step 3 lost, opened again", after(two, loseFirstSync, reopen), true, 1, v2, []state{v2}},
		{"opened, step 3 lost, the slot 1", after(one, reopen, loseMiddleSync), false, 2, v1, []state{v1}},
		{"opened, step 3 lost, the slot 2", after(two, reopen, loseMiddleSync), false, 1, v2, []state{v2}},

		{"step 5 lost, no slot", after(no, loseLastSync), true, 2, v3, []state{none, v3}},
		{"step 5 lost, the slot 1", after(one, loseLastSync), true, 1, v3, []state{v1, v3}},
		{"step 5 lost, the slot 2", after(two, loseLastSync), true, 2, v3, []state{v2, v3}},
		{"step 5 lost, no slot, opened again", after(no, loseLastSync, reopen), true, 2, v3, []state{none, v3}},
		{"step 5 lost, the slot 1, opened again", after(one, loseLastSync, reopen), true, 1, v3, []state{v1, v3}},
		{"step 5 lost, the slot 2, opened again", after(two, loseLastSync, reopen), true, 2, v3, []state{v2, v3}},
		{"step 5 lost, and then step 1", after(one, loseLastSync, loseFirstSync), true, 1, v3, []state{v1, v3}},
		{"step 5 lost, opened again, and then step 1", after(two, loseLastSync, reopen, loseFirstSync), true, 2, v3, []state{v2, v3}},
	}
}

// eachScene runs a test with each of the scenes.
func eachScene(t *testing.T, test func(t *testing.T, sc *scene)) {
	for _, sc := range scenes() {
		t.Run(sc.name, func(t *testing.T) { test(t, &sc) })
	}
}
