package cell

import (
	"strconv"
	"testing"

	"taquin/api"
	"taquin/disk"
)

// P4.1: Open.

// image returns the bytes of a file with a header; those behind it are not 0.
func image(header string, size int) string {
	return (header + text(max(size-len(header), 0), 3))[:size]
}

// expectForm checks that a file is no file of a cell.
func expectForm(t *testing.T, about, file string) {
	t.Helper()
	c, err := Open(with(t, 0, file), 0)
	if c != nil || err != api.ErrForm {
		t.Errorf("%s: %v, error %d", about, c, err)
	}
}

// expectOpens checks what the cell in a file has.
func expectOpens(t *testing.T, about, file string, want state) {
	t.Helper()
	c, err := Open(with(t, 0, file), 0)
	if err != api.OK || c == nil {
		t.Errorf("%s: %v, error %d", about, c, err)
		return
	}
	expectState(t, about, c, want)
}

func TestOpenWhileTheMachineIsDown(t *testing.T) {
	d := with(t, 0, head(1, 0))
	expect(t, "Write", d.Write(2, 0, "\x03malformed"), api.OK)
	d.Crash([]int{1})
	for _, f := range append([]int{0, 1, 2, 15}, noFiles...) {
		if c, err := Open(d, f); c != nil || err != api.ErrDown {
			t.Error(f, c, err)
		}
	}
	d.Start()
	expectState(t, "after a start", open(t, d, 0), is(""))
}

func TestOpenOfWhatIsNoFile(t *testing.T) {
	d := disk.New()
	for _, f := range noFiles {
		if c, err := Open(d, f); c != nil || err != api.ErrArg {
			t.Error(f, c, err)
		}
	}
}

func TestOpenOfEmptyFiles(t *testing.T) {
	d := disk.New()
	for f := range 16 {
		expectState(t, "file "+strconv.Itoa(f), open(t, d, f), none)
	}
}

func TestOpenOfTheFileThatIsNamed(t *testing.T) {
	d := disk.New()
	for f := range 16 {
		value := text(f, f)
		expect(t, "Write", d.Write(f, 0, head(1+f%2, f)), api.OK)
		expect(t, "Write", d.Write(f, []int{slot1, slot2}[f%2], value), api.OK)
	}
	for f := range 16 {
		expectState(t, "file "+strconv.Itoa(f), open(t, d, f), is(text(f, f)))
	}
}

func TestOpenWithoutAHeader(t *testing.T) {
	for _, size := range []int{0, 1, 2, 3, 4, 5, 6, 63, 64, 65, 200, slot2 - 1, slot2, slot2 + 1, slot2 + Max, 200000} {
		about := strconv.Itoa(size) + " bytes"
		expectOpens(t, about, image("\x00", size+1), none)
		expectOpens(t, about+" 0", zeros(size), none)
	}
	for _, file := range []string{"\x00\x01\x00\x00\x00", "\x00\xff\xff\xff\xff", "\x00\x02", "\x00\x01\x01"} {
		expectOpens(t, strconv.Quote(file), file, none)
	}
}

func TestOpenOfShortFiles(t *testing.T) {
	for _, first := range []int{1, 2, 3, 255} {
		for size := 1; size < 5; size++ {
			about := "first byte " + strconv.Itoa(first) + ", " + strconv.Itoa(size) + " bytes"
			expectForm(t, about, head(first, 0)[:size])
			expectForm(t, about, head(first, 1<<32-1)[:size])
		}
	}
	expectOpens(t, "the slot 1, 5 bytes", head(1, 0), is(""))
	expectOpens(t, "the slot 2, 5 bytes", head(2, 0), is(""))
	expectForm(t, "no slot, 5 bytes", head(3, 0))
}

func TestOpenWithEachFirstByte(t *testing.T) {
	for _, size := range []int{0, 10, 500} {
		bytes := image(head(0, size), slot2+600)
		d := with(t, 0, bytes)
		for first := range 256 {
			expect(t, "Write", d.Write(0, 0, string([]byte{byte(first)})), api.OK)
			c, err := Open(d, 0)
			about := "first byte " + strconv.Itoa(first)
			if first > 2 {
				if c != nil || err != api.ErrForm {
					t.Error(about, c, err)
				}
				continue
			}
			expect(t, about, err, api.OK)
			expectState(t, about, c, []state{none, is(bytes[slot1 : slot1+size]), is(bytes[slot2 : slot2+size])}[first])
		}
	}
}

// eachSlot calls f with the slots 1 and 2, and with where they begin.
func eachSlot(f func(slot, at int)) {
	f(1, slot1)
	f(2, slot2)
}

func TestOpenWithLengthsUpToMax(t *testing.T) {
	eachSlot(func(slot, at int) {
		for _, size := range []int{0, 1, 2, 63, 64, 65, 255, 256, 257, 511, 512, 0x1234, 0x8000, Max - 256, Max - 1, Max} {
			about := "the slot " + strconv.Itoa(slot) + ", length " + strconv.Itoa(size)
			file := image(head(slot, size), at+Max+10)
			expectOpens(t, about, file, is(file[at:at+size]))
		}
	})
}

func TestOpenWithLengthsBehindMax(t *testing.T) {
	sizes := []int{Max + 1, Max + 2, Max + 255, Max + 256, 2*Max - 1, 2 * Max, 3 * Max, 255 * Max, 1<<24 - 1, 1<<32 - 1, 1<<31 - 1}
	for i := range 32 {
		if 1<<i > Max {
			sizes = append(sizes, 1<<i, 1<<i+1, 1<<i+Max)
		}
	}
	eachSlot(func(slot, at int) {
		for _, size := range sizes {
			about := "the slot " + strconv.Itoa(slot) + ", length " + strconv.Itoa(size)
			expectForm(t, about, image(head(slot, size), at+Max))
			expectForm(t, about, image(head(slot, size), at+2*Max+10))
		}
	})
}

func TestOpenWhereTheFileEnds(t *testing.T) {
	eachSlot(func(slot, at int) {
		for _, size := range []int{1, 2, 63, 64, 65, 300, Max - 1, Max} {
			about := "the slot " + strconv.Itoa(slot) + ", length " + strconv.Itoa(size)
			file := image(head(slot, size), at+size)
			expectOpens(t, about, file, is(file[at:]))
			expectOpens(t, about+", one byte more", image(head(slot, size), at+size+1), is(file[at:]))
			for _, end := range []int{5, 6, at - 1, at, at + 1, at + size/2, at + size - 1} {
				if end < at+size {
					expectForm(t, about+", end "+strconv.Itoa(end), file[:end])
				}
			}
		}
	})
}

func TestOpenOfAnEmptyValue(t *testing.T) {
	eachSlot(func(slot, at int) {
		for _, end := range []int{5, 6, 63, 64, 65, 66, slot2 - 1, slot2, slot2 + 1} {
			about := "the slot " + strconv.Itoa(slot) + ", end " + strconv.Itoa(end)
			expectOpens(t, about, image(head(slot, 0), end), is(""))
		}
	})
}

func TestOpenReadsWhatIsNotDurable(t *testing.T) {
	d := with(t, 0, image(head(1, 10), slot1+10))
	expect(t, "Write", d.Write(0, slot2, "value"), api.OK)
	expect(t, "Write", d.Write(0, 0, head(2, 5)), api.OK)
	expectState(t, "two slots", open(t, d, 0), is("value"))
	expect(t, "Write", d.Write(0, 0, "\x04"), api.OK)
	if c, err := Open(d, 0); c != nil || err != api.ErrForm {
		t.Error(c, err)
	}
}

func TestOpenChangesNothing(t *testing.T) {
	for _, header := range []string{"", "\x00", head(1, 10), head(2, 10), head(3, 10), head(1, Max+1), head(2, Max)} {
		d := with(t, 0, image(head(1, 5), slot2+20))
		expect(t, "Write", d.Write(0, 0, header), api.OK) // which is pending
		before := d.Copy()
		d.Lose(1)
		d.Arm(2, nil)
		Open(d, 0)
		Open(d, 0)
		Open(d, 1)
		Open(d, 16)
		expect(t, "a lost sync", d.Sync(1), api.ErrLost)
		d.Arm(0, nil)
		if diff := differ(t, d, before); diff != "" {
			t.Errorf("%q: %s", header, diff)
		}
	}
}
