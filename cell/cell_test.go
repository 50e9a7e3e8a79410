package cell

import (
	"math"
	"slices"
	"strconv"
	"strings"
	"testing"

	"taquin/api"
	"taquin/disk"
)

const (
	most  = 1 << 24 // the greatest size of a file
	slot1 = 64
	slot2 = 131072
)

// The numbers of no file.
var noFiles = []int{-1, 16, 17, -16, 1 << 32, math.MaxInt, math.MinInt}

// Several ways in which pending sectors survive.
var keeps = [][]int{nil, {1}, {0}, {1, 0}, {0, 1}, {0, 0, 1}, {1, 1, 0}}

// state is what Get returns.
type state struct {
	value string
	has   bool
}

var none = state{}

func is(value string) state {
	return state{value, true}
}

func stateOf(c *Cell) state {
	value, has := c.Get()
	return state{value, has}
}

// String is used by the messages of tests: it leaves out most of a long value.
func (s state) String() string {
	if !s.has {
		return "(none: " + strconv.Quote(s.value) + ")"
	}
	return strconv.Quote(s.value[:min(len(s.value), 20)]) + " (" + strconv.Itoa(len(s.value)) + " bytes)"
}

func expect(t *testing.T, about string, got, want api.Errno) {
	t.Helper()
	if got != want {
		t.Errorf("%s: error %d instead of %d", about, got, want)
	}
}

func expectState(t *testing.T, about string, c *Cell, want state) {
	t.Helper()
	for range 2 {
		if got := stateOf(c); got != want {
			t.Errorf("%s: %v instead of %v", about, got, want)
		}
	}
}

// open opens a cell that must be there.
func open(t *testing.T, d *disk.Disk, f int) *Cell {
	t.Helper()
	c, err := Open(d, f)
	if err != api.OK || c == nil {
		t.Fatalf("Open of the file %d: %v, error %d", f, c, err)
	}
	return c
}

func set(t *testing.T, c *Cell, s string) {
	t.Helper()
	expect(t, "Set", c.Set(s), api.OK)
}

// contents returns the bytes of a file, whether the machine is up or down.
func contents(t *testing.T, d *disk.Disk, f int) string {
	t.Helper()
	if d.Down() {
		d = d.Copy()
		d.Start()
	}
	s, err := d.Read(f, 0, most)
	expect(t, "Read", err, api.OK)
	return s
}

// afterCrash returns a copy of a disk, which crashed and was started.
func afterCrash(d *disk.Disk, keep []int) *disk.Disk {
	c := d.Copy()
	c.Start()
	c.Crash(keep)
	c.Start()
	return c
}

// with returns a disk with a file that contains s, all of it durable.
func with(t *testing.T, f int, s string) *disk.Disk {
	t.Helper()
	d := disk.New()
	expect(t, "Write", d.Write(f, 0, s), api.OK)
	expect(t, "Sync", d.Sync(f), api.OK)
	return d
}

// differ reports how two disks differ, now or after a crash.
func differ(t *testing.T, a, b *disk.Disk) string {
	t.Helper()
	if a.Down() != b.Down() {
		return "down"
	}
	if diff := filesDiffer(t, a, b); diff != "" {
		return diff
	}
	for _, keep := range keeps {
		if diff := filesDiffer(t, afterCrash(a, keep), afterCrash(b, keep)); diff != "" {
			return diff + " after a crash"
		}
	}
	return ""
}

// filesDiffer reports which file of two disks has other bytes.
func filesDiffer(t *testing.T, a, b *disk.Disk) string {
	t.Helper()
	for f := range 16 {
		if a.Size(f) != b.Size(f) || contents(t, a, f) != contents(t, b, f) {
			return "file " + strconv.Itoa(f)
		}
	}
	return ""
}

// text returns n bytes. Those of two calls with different numbers differ at every place, and those of one call from all that are 64 bytes away.
func text(n, number int) string {
	b := make([]byte, n)
	for i := range b {
		b[i] = byte(i + i/64 + 31*number)
	}
	return string(b)
}

func zeros(n int) string {
	return strings.Repeat("\x00", n)
}

// head returns the bytes of a header.
func head(slot, size int) string {
	return string([]byte{byte(slot), byte(size), byte(size >> 8), byte(size >> 16), byte(size >> 24)})
}

// The rows of the chapter's examples.

func TestExamples(t *testing.T) {
	d := disk.New()
	c, err := Open(d, 0)
	expect(t, "Open", err, api.OK)
	expectState(t, "an empty file", c, none)
	expect(t, "Set", c.Set("a"), api.OK)
	expect(t, "Set", c.Set("bc"), api.OK)
	expectState(t, "two values", c, is("bc"))
	want := "\x02\x02\x00\x00\x00" + zeros(59) + "a" + zeros(slot2-65) + "bc"
	if contents(t, d, 0) != want {
		t.Error("the file has other bytes")
	}
}

// P4.2: Get.

func TestGet(t *testing.T) {
	d := disk.New()
	c := open(t, d, 0)
	expectState(t, "no value", c, none)
	for i, n := range []int{0, 1, 5, 0, 64, 65, 1000, 3, 0, Max, Max - 1, 0} {
		s := text(n, i)
		set(t, c, s)
		expectState(t, "after Set", c, is(s))
		expectState(t, "opened again", open(t, d, 0), is(s))
	}
}

func TestGetOfValuesWithAllBytes(t *testing.T) {
	c := open(t, disk.New(), 0)
	for b := range 256 {
		s := string([]byte{byte(b), 0, byte(b)})
		set(t, c, s)
		expectState(t, "after Set", c, is(s))
	}
}

func TestGetWhileTheMachineIsDown(t *testing.T) {
	d := disk.New()
	a, b := open(t, d, 0), open(t, d, 1)
	set(t, b, "value")
	d.Crash(nil)
	expectState(t, "without a value", a, none)
	expectState(t, "with a value", b, is("value"))
}

func TestGetDoesNotReadTheDisk(t *testing.T) {
	d := disk.New()
	c := open(t, d, 0)
	set(t, c, "value")
	before := d.Copy()
	d.Arm(1, nil)
	expectState(t, "with a value", c, is("value"))
	if d.Down() {
		t.Error("Get is a call that counts")
	}
	if diff := differ(t, d, before); diff != "" {
		t.Error(diff)
	}
}

// Two cells in different files of one disk.

func TestCellsInDifferentFiles(t *testing.T) {
	d := disk.New()
	var cells [16]*Cell
	for f := range 16 {
		cells[f] = open(t, d, f)
	}
	for round := range 3 {
		for f := range 16 {
			set(t, cells[f], text(100*f, round+f))
		}
		for f := range 16 {
			expectState(t, "after Set", cells[f], is(text(100*f, round+f)))
			expectState(t, "opened again", open(t, d, f), is(text(100*f, round+f)))
			expectState(t, "after a crash", open(t, afterCrash(d, nil), f), is(text(100*f, round+f)))
		}
	}
}

func TestSetLeavesOtherFiles(t *testing.T) {
	d := with(t, 3, "other")
	expect(t, "Write", d.Write(3, 1, "T"), api.OK) // which stays pending
	c := open(t, d, 4)
	set(t, c, "value")
	if contents(t, d, 3) != "oTher" || contents(t, afterCrash(d, nil), 3) != "other" || contents(t, afterCrash(d, []int{1, 0}), 3) != "oTher" {
		t.Error("a Set of another file changed the file")
	}
	expectState(t, "after a crash", open(t, afterCrash(d, nil), 4), is("value"))
}

func TestCellsShareNothing(t *testing.T) {
	a, b := disk.New(), disk.New()
	x, y := open(t, a, 0), open(t, b, 0)
	set(t, x, "x")
	expectState(t, "another disk", y, none)
	set(t, y, "y")
	expectState(t, "another disk", x, is("x"))
	if states := []state{stateOf(open(t, a, 0)), stateOf(open(t, b, 0))}; !slices.Equal(states, []state{is("x"), is("y")}) {
		t.Error(states)
	}
}
