package journal

import (
	"math"
	"slices"
	"strconv"
	"strings"
	"testing"

	"taquin/api"
	"taquin/cell"
	"taquin/disk"
)

const most = 1 << 24 // the greatest size of a file

// Several ways in which pending sectors survive.
var keeps = [][]int{nil, {1}, {1, 0}, {0, 1}, {0, 0, 1}}

// A string whose form has more than Max bytes.
var tooMuch = strings.Repeat("x", Max)

// Strings of several lengths, and with bytes that are not plain.
var plain = []string{"", "a", "bc", "\x00", "\n", "a\x00b\nc", "1:a,", ",", ":", "0:,0:,", "\xff\xfe", "é"}

func expect(t *testing.T, about string, got, want api.Errno) {
	t.Helper()
	if got != want {
		t.Errorf("%s: error %d instead of %d", about, got, want)
	}
}

// show is used by the messages of tests: it leaves out most of a long list.
func show(l []string) string {
	s := ""
	for _, x := range l[:min(len(l), 8)] {
		s += strconv.Quote(x[:min(len(x), 12)]) + " "
	}
	return s + "(" + strconv.Itoa(len(l)) + " strings)"
}

// expectList checks what Len, Get and All return.
func expectList(t *testing.T, about string, j *Journal, want ...string) {
	t.Helper()
	for range 2 {
		if diff := listDiffers(j, want); diff != "" {
			t.Errorf("%s: %s: %s instead of %s", about, diff, show(j.All()), show(want))
		}
	}
}

// listDiffers reports which of Len, Get and All tells that a journal has another list.
func listDiffers(j *Journal, want []string) string {
	switch {
	case j.Len() != len(want):
		return "Len"
	case !slices.Equal(j.All(), want):
		return "All"
	case j.Get(-1) != "" || j.Get(len(want)) != "":
		return "Get of no string"
	}
	for i, s := range want {
		if j.Get(i) != s {
			return "Get of " + strconv.Itoa(i)
		}
	}
	return ""
}

// open opens a journal that must be there.
func open(t *testing.T, d *disk.Disk, base int) *Journal {
	t.Helper()
	j, err := Open(d, base)
	if err != api.OK || j == nil {
		t.Fatalf("Open of the base %d: %v, error %d", base, j, err)
	}
	return j
}

func appendTo(t *testing.T, j *Journal, l ...string) {
	t.Helper()
	expect(t, "Append", j.Append(l), api.OK)
}

func cut(t *testing.T, j *Journal, n int) {
	t.Helper()
	expect(t, "Cut", j.Cut(n), api.OK)
}

// started returns a disk whose files can be read.
func started(d *disk.Disk) *disk.Disk {
	if d.Down() {
		d = d.Copy()
		d.Start()
	}
	return d
}

// contents returns the bytes of a file, whether the machine is up or down.
func contents(d *disk.Disk, f int) string {
	s, _ := started(d).Read(f, 0, most)
	return s
}

// afterCrash returns a copy of a disk, which crashed and was started, and has lost no sync.
func afterCrash(d *disk.Disk, keep []int) *disk.Disk {
	c := d.Copy()
	c.Start()
	c.Crash(keep)
	c.Start()
	c.Lose(0)
	return c
}

// differ reports how two disks differ, now or after a crash.
func differ(a, b *disk.Disk) string {
	if a.Down() != b.Down() {
		return "down"
	}
	if diff := filesDiffer(a, b); diff != "" {
		return diff
	}
	for _, keep := range keeps {
		if diff := filesDiffer(afterCrash(a, keep), afterCrash(b, keep)); diff != "" {
			return diff + " after a crash"
		}
	}
	return ""
}

// filesDiffer reports which file of two disks has other bytes.
func filesDiffer(a, b *disk.Disk) string {
	a, b = started(a), started(b)
	for f := range 16 {
		if a.Size(f) != b.Size(f) || ends(a, f) != ends(b, f) {
			return "file " + strconv.Itoa(f)
		}
	}
	return ""
}

// ends returns the bytes with which a file begins and ends. The values of the cells of journals are short, so that nothing stands between them.
func ends(d *disk.Disk, f int) [2]string {
	first, _ := d.Read(f, 0, 4096)
	last, _ := d.Read(f, max(d.Size(f)-4096, 0), 4096)
	return [2]string{first, last}
}

// text returns n bytes, other ones for each number.
func text(n, number int) string {
	b := make([]byte, n)
	for i := range b {
		b[i] = byte(i + i/64 + 31*number)
	}
	return string(b)
}

// encoded returns the form of a list.
func encoded(l ...string) string {
	s := ""
	for _, x := range l {
		s += strconv.Itoa(len(x)) + ":" + x + ","
	}
	return s
}

// numbers returns what is noted for a list.
func numbers(l ...string) string {
	return strconv.Itoa(len(encoded(l...))) + ";" + strconv.Itoa(len(l)) + ";"
}

// with returns a disk on which put was called.
func with(t *testing.T, base int, log string, value ...string) *disk.Disk {
	t.Helper()
	d := disk.New()
	put(t, d, base, log, value...)
	return d
}

// put writes a log, and sets the cell, if there is a value for it; all of it is durable.
func put(t *testing.T, d *disk.Disk, base int, log string, value ...string) {
	t.Helper()
	expect(t, "Write", d.Write(base, 0, log), api.OK)
	expect(t, "Sync", d.Sync(base), api.OK)
	for _, s := range value {
		c, err := cell.Open(d, base+1)
		expect(t, "cell.Open", err, api.OK)
		expect(t, "cell.Set", c.Set(s), api.OK)
	}
}

// expectNoted checks what the cell of a journal has.
func expectNoted(t *testing.T, about string, d *disk.Disk, base int, want string) {
	t.Helper()
	c, err := cell.Open(d, base+1)
	if err != api.OK {
		t.Errorf("%s: the cell: error %d", about, err)
		return
	}
	if got, _ := c.Get(); got != want {
		t.Errorf("%s: %q is noted instead of %q", about, got, want)
	}
}

// The rows of the chapter's examples.

func TestExamples(t *testing.T) {
	d := disk.New()
	j, err := Open(d, 0)
	expect(t, "Open", err, api.OK)
	expectList(t, "new files", j)
	expect(t, "Append(a, bc)", j.Append([]string{"a", "bc"}), api.OK)
	expect(t, "Append()", j.Append(nil), api.OK)
	expect(t, "Append(d)", j.Append([]string{"d"}), api.OK)
	expect(t, "Cut(2)", j.Cut(2), api.OK)
	expectList(t, "after Cut(2)", j, "a", "bc")
	expect(t, "Append(e)", j.Append([]string{"e"}), api.OK)
	if j.Get(2) != "e" || j.Get(3) != "" {
		t.Errorf("%q and %q", j.Get(2), j.Get(3))
	}
	if got := contents(d, 0); got != "1:a,2:bc,1:e," {
		t.Errorf("the log is %q", got)
	}
	expectNoted(t, "the cell", d, 0, "13;3;")
}

// P5.4: Len, Get and All.

func TestLenGetAndAll(t *testing.T) {
	d := disk.New()
	j := open(t, d, 3)
	expectList(t, "new", j)
	var want []string
	for i, s := range plain {
		appendTo(t, j, s)
		want = append(want, s)
		expectList(t, "Append "+strconv.Itoa(i), j, want...)
		expectList(t, "opened again", open(t, d.Copy(), 3), want...)
	}
	appendTo(t, j, plain...)
	want = append(want, plain...)
	expectList(t, "all at once", j, want...)
	for n := len(want) - 1; n >= 0; n-- {
		cut(t, j, n)
		expectList(t, "Cut to "+strconv.Itoa(n), j, want[:n]...)
		expectList(t, "opened again", open(t, d.Copy(), 3), want[:n]...)
	}
}

func TestGetOfNoString(t *testing.T) {
	j := open(t, disk.New(), 0)
	for _, l := range [][]string{nil, {"a", "b", "c"}} {
		appendTo(t, j, l...)
		for _, i := range []int{-1, -2, j.Len(), j.Len() + 1, 1 << 32, -1 << 32, math.MaxInt, math.MinInt} {
			if got := j.Get(i); got != "" {
				t.Errorf("Get(%d) of %d strings: %q", i, j.Len(), got)
			}
		}
	}
	cut(t, j, 1)
	if got := j.Get(1) + j.Get(2); got != "" {
		t.Errorf("after a Cut: %q", got)
	}
}

func TestStringsWithAllBytes(t *testing.T) {
	d := disk.New()
	j := open(t, d, 0)
	var want []string
	for b := range 256 {
		want = append(want, string([]byte{byte(b), '0', byte(b)}))
	}
	appendTo(t, j, want...)
	expectList(t, "Append", j, want...)
	expectList(t, "opened again", open(t, d, 0), want...)
}

func TestStringsOfManyLengths(t *testing.T) {
	d := disk.New()
	j := open(t, d, 0)
	var want []string
	for i, n := range []int{0, 1, 9, 10, 11, 59, 60, 61, 62, 63, 64, 65, 99, 100, 999, 1000, 10000, 70000, 100000} {
		want = append(want, text(n, i))
		appendTo(t, j, text(n, i))
		expectList(t, strconv.Itoa(n)+" bytes", j, want...)
		expectList(t, strconv.Itoa(n)+" bytes, opened again", open(t, d.Copy(), 0), want...)
	}
	if contents(d, 0) != encoded(want...) {
		t.Error("the log")
	}
}

func TestListIsToldWhileTheMachineIsDown(t *testing.T) {
	d := disk.New()
	j, none := open(t, d, 0), open(t, d, 2)
	appendTo(t, j, "a", "b")
	d.Crash(nil)
	expectList(t, "two strings", j, "a", "b")
	expectList(t, "no string", none)
}

func TestListIsToldWithoutTheDisk(t *testing.T) {
	d := disk.New()
	j := open(t, d, 0)
	appendTo(t, j, "a", "b")
	before := d.Copy()
	d.Arm(1, nil)
	d.Lose(1)
	expectList(t, "two strings", j, "a", "b")
	expect(t, "a scheduled crash", d.Copy().Sync(0), api.ErrDown)
	d.Arm(0, nil)
	expect(t, "a lost sync", d.Sync(0), api.ErrLost)
	if diff := differ(d, before); diff != "" {
		t.Error(diff)
	}
}

// P5.5: memory.

func TestListsThatAreGivenAreNotKept(t *testing.T) {
	d := disk.New()
	j := open(t, d, 0)
	for _, want := range [][]string{{"a", "b"}, {"a", "b", "a", "b"}} {
		l := []string{"a", "b", "beyond"}[:2]
		appendTo(t, j, l...)
		expect(t, "Append", j.Append(nil), api.OK)
		l[0], l[1] = "x", "y"
		expectList(t, "the list that was given is changed", j, want...)
		expectList(t, "opened again", open(t, d.Copy(), 0), want...)
	}
}

func TestListsThatAreGivenAreNotChanged(t *testing.T) {
	j := open(t, disk.New(), 0)
	l := []string{"a", "b", "c", "d"}
	appendTo(t, j, l[:2]...)
	appendTo(t, j, "x")
	cut(t, j, 1)
	appendTo(t, j, "y", "z")
	cut(t, j, 0)
	if !slices.Equal(l, []string{"a", "b", "c", "d"}) {
		t.Error(l)
	}
	appendTo(t, j, l[1:3]...)
	expectList(t, "a part of a list", j, "b", "c")
}

func TestListsThatAreReturnedAreFresh(t *testing.T) {
	d := disk.New()
	j := open(t, d, 0)
	appendTo(t, j, "a", "b", "c")
	for _, x := range []*Journal{j, open(t, d.Copy(), 0)} {
		first, second := x.All(), x.All()
		first[0] = "x"
		_ = append(first[:1], "y", "z")
		expectList(t, "a list that was returned is changed", x, "a", "b", "c")
		if !slices.Equal(second, []string{"a", "b", "c"}) {
			t.Error("two lists that were returned share memory:", second)
		}
		cut(t, x, 1)
		appendTo(t, x, "d", "e")
		if !slices.Equal(second, []string{"a", "b", "c"}) {
			t.Error("a list that was returned is changed by the journal:", second)
		}
		third := append(x.All(), "more")
		appendTo(t, x, "f")
		expectList(t, "after all", x, "a", "d", "e", "f")
		if third[3] != "more" {
			t.Error("a list that was returned is changed by the journal:", third)
		}
	}
}

// Several journals on one disk, and on several.

func TestJournalsWithDifferentBases(t *testing.T) {
	for first := range 2 {
		d := disk.New()
		var list []*Journal
		for base := first; base <= 14; base += 2 {
			list = append(list, open(t, d, base))
		}
		want := make([][]string, len(list))
		for round := range 4 {
			for i, j := range list {
				l := []string{text(10*i, i+round), "", text(round, i)}[:round]
				appendTo(t, j, l...)
				n := (len(want[i]) + len(l)) * (i + 1) / len(list)
				cut(t, j, n)
				want[i] = append(want[i], l...)[:n]
			}
			for i, j := range list {
				about := "base " + strconv.Itoa(first+2*i)
				expectList(t, about, j, want[i]...)
				expectList(t, about+" opened again", open(t, d.Copy(), first+2*i), want[i]...)
				expectList(t, about+" after a crash", open(t, afterCrash(d, nil), first+2*i), want[i]...)
			}
		}
	}
}

func TestOtherFilesAreNotTouched(t *testing.T) {
	d := disk.New()
	for f := range 16 {
		if f != 7 && f != 8 {
			expect(t, "Write", d.Write(f, 0, "other"), api.OK)
			expect(t, "Sync", d.Sync(f), api.OK)
			expect(t, "Write", d.Write(f, 1, "T"), api.OK) // which stays pending
		}
	}
	j := open(t, d, 7)
	appendTo(t, j, "a", "b", "c")
	cut(t, j, 1)
	open(t, d, 7)
	for f := range 16 {
		if f == 7 || f == 8 {
			continue
		}
		if contents(d, f) != "oTher" || contents(afterCrash(d, nil), f) != "other" || contents(afterCrash(d, []int{1}), f) != "oTher" {
			t.Errorf("the file %d", f)
		}
	}
	expectList(t, "after a crash", open(t, afterCrash(d, nil), 7), "a")
}

func TestJournalsShareNothing(t *testing.T) {
	a, b := disk.New(), disk.New()
	x, y := open(t, a, 0), open(t, b, 0)
	appendTo(t, x, "x")
	expectList(t, "another disk", y)
	appendTo(t, y, "y", "z")
	a.Lose(1)
	expect(t, "Append", x.Append([]string{"lost"}), api.ErrLost)
	appendTo(t, y, "more")
	expectList(t, "one disk", x, "x")
	expectList(t, "another disk", y, "y", "z", "more")
}

func TestJournalOfManyStrings(t *testing.T) {
	d := disk.New()
	j := open(t, d, 0)
	n := Max / len(encoded(""))
	expect(t, "Append", j.Append(make([]string, n)), api.OK)
	if j.Len() != n || !slices.Equal(j.All(), make([]string, n)) || contents(d, 0) != strings.Repeat("0:,", n) {
		t.Error(j.Len())
	}
	if again := open(t, d.Copy(), 0); again.Len() != n || again.Get(n-1) != "" {
		t.Error(again.Len())
	}
	for n > 100 {
		n -= 99
		cut(t, j, n)
	}
	if j.Len() != n {
		t.Error(j.Len())
	}
	expectNoted(t, "the cell", d, 0, strconv.Itoa(3*n)+";"+strconv.Itoa(n)+";")
}
