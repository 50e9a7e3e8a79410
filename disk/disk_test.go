package disk

import (
	"math"
	"slices"
	"strings"
	"testing"

	"taquin/api"
)

const most = 1 << 24 // the greatest size of a file

// The numbers of no file.
var noFiles = []int{-1, 16, 17, -16, 1 << 32, math.MaxInt, math.MinInt}

// Several ways in which pending sectors survive.
var keeps = [][]int{nil, {1}, {0}, {1, 0}, {0, 1}, {0, 0, 1}, {1, 1, 0}}

func expect(t *testing.T, about string, got, want api.Errno) {
	t.Helper()
	if got != want {
		t.Errorf("%s: error %d instead of %d", about, got, want)
	}
}

func expectFile(t *testing.T, d *Disk, f int, want string) {
	t.Helper()
	got, err := d.Read(f, 0, most)
	if err != api.OK || got != want {
		t.Errorf("file %d: %q, error %d, instead of %q", f, got, err, want)
	}
	if d.Size(f) != len(want) {
		t.Errorf("file %d: size %d instead of %d", f, d.Size(f), len(want))
	}
}

// expectAfterCrash checks what a file of a copy contains after a crash and a start.
func expectAfterCrash(t *testing.T, d *Disk, keep []int, f int, want string) {
	t.Helper()
	c := d.Copy()
	c.Crash(keep)
	c.Start()
	expectFile(t, c, f, want)
}

func write(t *testing.T, d *Disk, f, at int, s string) {
	t.Helper()
	expect(t, "Write", d.Write(f, at, s), api.OK)
}

func sync(t *testing.T, d *Disk, f int) {
	t.Helper()
	expect(t, "Sync", d.Sync(f), api.OK)
}

// with returns a disk whose file 0 contains s, all of it durable.
func with(t *testing.T, s string) *Disk {
	t.Helper()
	d := New()
	write(t, d, 0, 0, s)
	sync(t, d, 0)
	return d
}

func zeros(n int) string {
	return strings.Repeat("\x00", n)
}

func xs(n int) string {
	return strings.Repeat("x", n)
}

// letters returns n bytes, each of which differs from those 64 bytes away.
func letters(n int) string {
	b := make([]byte, n)
	for i := range b {
		b[i] = byte('a' + (i+i/64)%26)
	}
	return string(b)
}

// The rows of the chapter's examples.

func TestExamples(t *testing.T) {
	d := with(t, "abc")
	write(t, d, 0, 1, "XY")
	expectAfterCrash(t, d, []int{1}, 0, "aXY")
	expectAfterCrash(t, d, []int{0}, 0, "abc")
	expectAfterCrash(t, d, nil, 0, "abc")
	d = New()
	write(t, d, 0, 62, "abcd")
	expectAfterCrash(t, d, []int{0, 1}, 0, zeros(64)+"cd")
	d = New()
	write(t, d, 0, 0, xs(200))
	expectAfterCrash(t, d, []int{1, 0}, 0, xs(64)+zeros(64)+xs(64))
}

// P3.1: New, Size, Down and Copy.

func TestNewDisk(t *testing.T) {
	d := New()
	if d.Down() {
		t.Error("down")
	}
	for f := -2; f <= 17; f++ {
		if d.Size(f) != 0 {
			t.Errorf("file %d: size %d", f, d.Size(f))
		}
	}
	for f := range 16 {
		expectFile(t, d, f, "")
		expectAfterCrash(t, d, []int{1}, f, "")
	}
	for range 100 { // no sync is lost, and no crash is scheduled
		sync(t, d, 0)
		write(t, d, 0, 0, "a")
		expect(t, "Truncate", d.Truncate(0, 0), api.OK)
	}
}

func TestNewDisksAreIndependent(t *testing.T) {
	a, b := New(), New()
	write(t, a, 0, 0, "a")
	a.Crash([]int{1})
	if b.Down() {
		t.Error("down")
	}
	expectFile(t, b, 0, "")
}

func TestSize(t *testing.T) {
	d := New()
	for f := range 16 {
		write(t, d, f, 10*f, "abc")
	}
	for f := range 16 {
		if d.Size(f) != 10*f+3 {
			t.Errorf("file %d: size %d", f, d.Size(f))
		}
	}
	for _, f := range noFiles {
		if d.Size(f) != 0 {
			t.Errorf("file %d: size %d", f, d.Size(f))
		}
	}
}

func TestSizeWhileTheMachineIsDown(t *testing.T) {
	d := with(t, "abc")
	write(t, d, 0, 3, "de")
	write(t, d, 15, 0, "x")
	d.Crash(nil)
	if d.Size(0) != 3 || d.Size(15) != 0 || d.Size(-1) != 0 || d.Size(16) != 0 {
		t.Error(d.Size(0), d.Size(15), d.Size(-1), d.Size(16))
	}
	d.Start()
	write(t, d, 15, 70, "x")
	d.Crash([]int{1})
	if d.Size(15) != 71 {
		t.Error(d.Size(15))
	}
}

func TestDown(t *testing.T) {
	d := New()
	for range 2 {
		d.Crash(nil)
		d.Crash(nil)
		if !d.Down() {
			t.Error("up after a crash")
		}
		d.Start()
		if d.Down() {
			t.Error("down after a start")
		}
		d.Start()
		if d.Down() {
			t.Error("down after another start")
		}
	}
}

func TestCopyHasTheContents(t *testing.T) {
	d := with(t, "abc")
	write(t, d, 0, 1, "XYZ")
	write(t, d, 15, 64, "q")
	c := d.Copy()
	expectFile(t, c, 0, "aXYZ")
	expectFile(t, c, 15, zeros(64)+"q")
	c.Crash([]int{0, 1}) // the durable part of the first file, and the pending sector of the other one
	c.Start()
	expectFile(t, c, 0, "abc")
	expectFile(t, c, 15, zeros(64)+"q")
}

func TestCopyIsDownIfTheDiskIs(t *testing.T) {
	d := New()
	d.Crash(nil)
	c := d.Copy()
	if !c.Down() {
		t.Error("the copy is up")
	}
	c.Start()
	if !d.Down() {
		t.Error("the disk has been started with its copy")
	}
	d.Start()
	d.Copy().Crash(nil)
	if d.Down() {
		t.Error("the disk has crashed with its copy")
	}
}

// change changes all that a disk with the files 0 and 1 has.
func change(d *Disk) {
	d.Lose(0)
	d.Arm(0, nil)
	d.Truncate(0, 1)
	d.Write(0, 0, "changed")
	d.Write(1, 0, "changed")
	d.Sync(0)
	d.Sync(1)
	d.Write(0, 200, "pending")
	d.Write(1, 200, "pending")
	d.Lose(7)
	d.Arm(1, []int{1})
	d.Write(2, 0, "changed")
}

func TestCopiesAreIndependent(t *testing.T) {
	for _, changed := range []string{"the disk", "the copy"} {
		d := with(t, xs(130))
		write(t, d, 1, 0, "abc")
		write(t, d, 0, 0, "A")
		write(t, d, 0, 129, "BC")
		d.Lose(1)
		d.Arm(2, []int{0, 1, 0})
		c := d.Copy()
		left := c
		if changed == "the copy" {
			left = d
			change(c)
		} else {
			change(d)
		}
		expectFile(t, left, 0, "A"+xs(128)+"BC")
		expectFile(t, left, 1, "abc")
		expectFile(t, left, 2, "")
		expectAfterCrash(t, left, []int{0, 0, 1}, 0, xs(129)+"BC")
		expect(t, "a lost sync", left.Sync(0), api.ErrLost)
		expect(t, "a scheduled crash", left.Sync(0), api.ErrDown)
		left.Start()
		expectFile(t, left, 0, "A"+xs(129))
		expectFile(t, left, 1, "")
	}
}

func TestPendingSectorsOfCopiesAreIndependent(t *testing.T) {
	d := blank(t)
	for n := range 3 { // so that there may be room for a fourth one in the list
		write(t, d, 0, 64*n, "o")
	}
	c := d.Copy()
	write(t, c, 0, 320, "o")
	write(t, d, 0, 192, "o")
	write(t, d, 0, 320, "o")
	checkPending(t, "the disk", d, [2]int{0, 0}, [2]int{0, 1}, [2]int{0, 2}, [2]int{0, 3}, [2]int{0, 5})
	checkPending(t, "the copy", c, [2]int{0, 0}, [2]int{0, 1}, [2]int{0, 2}, [2]int{0, 5})
	expect(t, "Truncate", c.Truncate(0, 640), api.OK)
	checkPending(t, "the disk", d, [2]int{0, 0}, [2]int{0, 1}, [2]int{0, 2}, [2]int{0, 3}, [2]int{0, 5})
}

func TestCopyHasWhatLoseAndArmHaveSet(t *testing.T) {
	d := with(t, "abc")
	write(t, d, 0, 0, "XYZ")
	d.Lose(2)
	d.Arm(4, []int{1})
	expect(t, "Sync of the disk", d.Sync(0), api.ErrLost)
	c := d.Copy()
	for _, e := range []*Disk{c, d} {
		expect(t, "Sync", e.Sync(0), api.ErrLost)
		expect(t, "Truncate", e.Truncate(0, 4), api.ErrArg)
		expect(t, "Write", e.Write(0, 1, "_"), api.ErrDown)
		e.Start()
		expectFile(t, e, 0, "X_Z")
	}
}

func TestCopyOfACopy(t *testing.T) {
	d := with(t, "abc")
	c := d.Copy()
	write(t, c, 0, 0, "X")
	e := c.Copy()
	write(t, e, 0, 1, "Y")
	expectFile(t, d, 0, "abc")
	expectFile(t, c, 0, "Xbc")
	expectFile(t, e, 0, "XYc")
	expectAfterCrash(t, e, nil, 0, "abc")
}

// P3 of the document: arguments are neither modified nor retained, nor read behind their length.

func TestListsOfCallersAreLeftAlone(t *testing.T) {
	d := New()
	write(t, d, 0, 0, xs(200))
	keep := []int{0, 1, 1, 1}
	d.Copy().Crash(keep[:1])
	expectAfterCrash(t, d, keep[:1], 0, "")
	d.Arm(1, keep[:2])
	c := d.Copy()
	keep[0], keep[1] = 1, 0
	for _, e := range []*Disk{d, c} {
		expect(t, "Write", e.Write(0, 200, ""), api.ErrDown)
		e.Start()
		expectFile(t, e, 0, zeros(64)+xs(64)+zeros(64)+xs(8))
	}
	if !slices.Equal(keep, []int{1, 0, 1, 1}) {
		t.Error(keep)
	}
}
