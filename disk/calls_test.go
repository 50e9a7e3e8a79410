package disk

import (
	"math"
	"slices"
	"strings"
	"testing"

	"taquin/api"
)

// P3.2: Read, Write, Sync and Truncate.

// checkUnchanged checks that a disk, whose files 0 and 15 are used, is what its copy is.
func checkUnchanged(t *testing.T, about string, d, before *Disk) {
	t.Helper()
	if d.Down() != before.Down() {
		t.Errorf("%s: down %v", about, d.Down())
	}
	for _, keep := range keeps {
		a, b := d.Copy(), before.Copy()
		a.Start()
		b.Start()
		for range 2 { // before the crash, and after it
			for _, f := range []int{0, 15} {
				got, _ := a.Read(f, 0, most)
				want, _ := b.Read(f, 0, most)
				if got != want {
					t.Errorf("%s: %q instead of %q", about, got, want)
				}
			}
			a.Crash(keep)
			b.Crash(keep)
			a.Start()
			b.Start()
		}
	}
}

// used returns a disk of whose files 0 and 15 some sectors are pending.
func used(t *testing.T) *Disk {
	t.Helper()
	d := with(t, letters(100))
	write(t, d, 15, 63, "ab")
	write(t, d, 0, 70, "CD")
	return d
}

func TestErrorsWhileTheMachineIsDown(t *testing.T) {
	d := used(t)
	d.Lose(1)
	d.Crash([]int{1})
	before := d.Copy()
	for _, f := range append([]int{0, 15}, noFiles...) {
		for _, n := range []int{-1, 0, 1, 1000, most, most + 1, math.MaxInt, math.MinInt} {
			if s, err := d.Read(f, n, 1); s != "" || err != api.ErrDown {
				t.Error("Read", f, n, s, err)
			}
			if s, err := d.Read(f, 0, n); s != "" || err != api.ErrDown {
				t.Error("Read", f, n, s, err)
			}
			expect(t, "Write", d.Write(f, n, "x"), api.ErrDown)
			expect(t, "Write", d.Write(f, n, ""), api.ErrDown)
			expect(t, "Truncate", d.Truncate(f, n), api.ErrDown)
		}
		expect(t, "Sync", d.Sync(f), api.ErrDown)
	}
	checkUnchanged(t, "calls", d, before)
	d.Start()
	expect(t, "the lost sync", d.Sync(0), api.ErrLost)
}

func TestErrorsOfWhatIsNoFile(t *testing.T) {
	d := used(t)
	d.Lose(1)
	before := d.Copy()
	for _, f := range noFiles {
		for _, n := range []int{-1, 0, 1, most, most + 1, math.MaxInt, math.MinInt} {
			if s, err := d.Read(f, n, 1); s != "" || err != api.ErrArg {
				t.Error("Read", f, n, s, err)
			}
			expect(t, "Write", d.Write(f, n, "x"), api.ErrArg) // not ErrFull
			expect(t, "Write", d.Write(f, n, ""), api.ErrArg)
			expect(t, "Truncate", d.Truncate(f, n), api.ErrArg)
		}
		expect(t, "Sync", d.Sync(f), api.ErrArg) // not ErrLost
	}
	checkUnchanged(t, "calls", d, before)
	expect(t, "the lost sync", d.Sync(0), api.ErrLost)
	sync(t, d, 0)
}

func TestFirstAndLastFile(t *testing.T) {
	d := New()
	for _, f := range []int{0, 15} {
		write(t, d, f, 0, "abc")
		expect(t, "Truncate", d.Truncate(f, 2), api.OK)
		sync(t, d, f)
		expectFile(t, d, f, "ab")
	}
}

func TestFilesAreIndependent(t *testing.T) {
	d := New()
	for f := range 16 {
		write(t, d, f, f, string(rune('a'+f)))
	}
	for f := range 16 {
		expectFile(t, d, f, zeros(f)+string(rune('a'+f)))
	}
	expect(t, "Truncate", d.Truncate(3, 0), api.OK)
	sync(t, d, 4)
	for f := range 16 {
		want := zeros(f) + string(rune('a'+f))
		if f == 3 {
			want = ""
		}
		expectFile(t, d, f, want)
		if f != 4 {
			want = ""
		}
		expectAfterCrash(t, d, nil, f, want)
	}
}

func TestRead(t *testing.T) {
	s := letters(200)
	d := with(t, s)
	ends := []int{0, 1, 2, 62, 63, 64, 65, 127, 128, 129, 191, 192, 193, 198, 199, 200, 201, 256, 1000, most, most + 1, math.MaxInt - 1, math.MaxInt}
	for _, at := range ends {
		for _, size := range ends {
			want := ""
			if at < len(s) {
				want = s[at:min(at+min(size, len(s)), len(s))]
			}
			if got, err := d.Read(0, at, size); got != want || err != api.OK {
				t.Errorf("%d, %d: %q, %d", at, size, got, err)
			}
		}
	}
	for _, n := range []int{-1, -2, -64, math.MinInt} {
		for _, m := range []int{-1, 0, 1, 300, math.MaxInt} {
			if got, err := d.Read(0, n, m); got != "" || err != api.ErrArg {
				t.Errorf("at %d, %d: %q, %d", n, m, got, err)
			}
			if got, err := d.Read(0, m, n); got != "" || err != api.ErrArg {
				t.Errorf("size %d, %d: %q, %d", n, m, got, err)
			}
		}
	}
	if got, err := d.Read(1, 0, 10); got != "" || err != api.OK {
		t.Errorf("empty file: %q, %d", got, err)
	}
}

func TestReadIsNoCallThatCounts(t *testing.T) {
	d := with(t, "abc")
	d.Arm(1, nil)
	for range 5 {
		if got, err := d.Read(0, 1, 1); got != "b" || err != api.OK {
			t.Error(got, err)
		}
		d.Size(0)
		d.Down()
		d.Read(-1, 0, 0)
	}
	expect(t, "Sync", d.Sync(0), api.ErrDown)
}

func TestWrite(t *testing.T) {
	for i, c := range []struct {
		old  string
		at   int
		s    string
		want string
	}{
		{"", 0, "a", "a"},
		{"", 3, "a", "\x00\x00\x00a"},
		{"abc", 0, "X", "Xbc"},
		{"abc", 1, "X", "aXc"},
		{"abc", 2, "X", "abX"},
		{"abc", 2, "XY", "abXY"},
		{"abc", 3, "X", "abcX"},
		{"abc", 5, "X", "abc\x00\x00X"},
		{"abc", 0, "ABC", "ABC"},
		{"abc", 0, "ABCD", "ABCD"},
		{"abc", 1, "\x00\xff", "a\x00\xff"},
		{xs(64), 64, "a", xs(64) + "a"},
		{xs(64), 63, "ab", xs(63) + "ab"},
		{xs(63), 63, "ab", xs(63) + "ab"},
		{xs(63), 64, "a", xs(63) + "\x00a"},
		{xs(65), 200, "a", xs(65) + zeros(135) + "a"},
		{xs(300), 63, letters(130), xs(63) + letters(130) + xs(107)},
		{xs(300), 64, letters(128), xs(64) + letters(128) + xs(108)},
		{"abc", 0, "", "abc"},
		{"abc", 2, "", "abc"},
		{"abc", 3, "", "abc"},
		{"abc", 4, "", "abc"},
		{"abc", 1000, "", "abc"},
		{"", 0, "", ""},
		{"", 64, "", ""},
		{"", most, "", ""},
	} {
		d := with(t, c.old)
		write(t, d, 0, c.at, c.s)
		expectFile(t, d, 0, c.want)
		expectAfterCrash(t, d, nil, 0, c.old)
		expectAfterCrash(t, d, []int{1}, 0, c.want)
		if t.Failed() {
			t.Fatalf("row %d", i)
		}
	}
}

func TestWriteErrors(t *testing.T) {
	long := strings.Repeat("x", most)
	for _, c := range []struct {
		about string
		at    int
		s     string
		want  api.Errno
	}{
		{"-1", -1, "a", api.ErrArg},
		{"-1, nothing", -1, "", api.ErrArg},
		{"-1, too long", -1, long + "xx", api.ErrArg}, // not ErrFull
		{"least", math.MinInt, "a", api.ErrArg},
		{"least, nothing", math.MinInt, "", api.ErrArg},
		{"one more", most, "a", api.ErrFull},
		{"one more of two", most - 1, "ab", api.ErrFull},
		{"one more, nothing", most + 1, "", api.ErrFull},
		{"one more of many", 1, long, api.ErrFull},
		{"one more at 0", 0, long + "x", api.ErrFull},
		{"greatest", math.MaxInt, "a", api.ErrFull}, // the sum is no int
		{"greatest, nothing", math.MaxInt, "", api.ErrFull},
		{"greatest of two", math.MaxInt - 1, "ab", api.ErrFull},
		{"greatest of many", math.MaxInt - 100, long, api.ErrFull},
	} {
		d := used(t)
		before := d.Copy()
		expect(t, c.about, d.Write(0, c.at, c.s), c.want)
		checkUnchanged(t, c.about, d, before)
	}
}

func TestWriteUpToTheLimit(t *testing.T) {
	d := New()
	write(t, d, 0, most-1, "a")
	write(t, d, 0, most, "")
	write(t, d, 1, 0, strings.Repeat("x", most))
	write(t, d, 2, most-65, letters(65))
	for f := range 3 {
		if d.Size(f) != most {
			t.Error(f, d.Size(f))
		}
	}
	for f, want := range []string{zeros(65) + "a", xs(66), "\x00" + letters(65)} {
		if got, err := d.Read(f, most-66, math.MaxInt); got != want || err != api.OK {
			t.Errorf("%q, %d", got, err)
		}
	}
	if got, err := d.Read(0, most, 1); got != "" || err != api.OK {
		t.Errorf("%q, %d", got, err)
	}
	sync(t, d, 0)
	d.Crash([]int{0})
	if d.Size(0) != most || d.Size(1) != 0 {
		t.Error(d.Size(0), d.Size(1))
	}
	d.Start()
	expect(t, "Truncate", d.Truncate(0, most), api.OK)
	expect(t, "Truncate", d.Truncate(0, most+1), api.ErrArg)
	expect(t, "Truncate", d.Truncate(0, 1), api.OK)
	expectFile(t, d, 0, "\x00")
}

// pendingOf returns which sectors of a disk are pending, in the order of the list: each of them as its file and number. Every file of the disk consists of the bytes o, its durable part of as many bytes 0, and there are at most 20 pending sectors.
func pendingOf(d *Disk) [][2]int {
	var list [][2]int
	for i := range 20 {
		keep := make([]int, 20)
		keep[i] = 1
		c := d.Copy()
		c.Crash(keep)
		c.Start()
		for f := range 16 {
			s, _ := c.Read(f, 0, most)
			for n := range (len(s) + 63) / 64 {
				if strings.Contains(s[64*n:min(64*n+64, len(s))], "o") {
					list = append(list, [2]int{f, n})
				}
			}
		}
	}
	return list
}

// blank returns a disk with files of 640 bytes 0, all of them durable.
func blank(t *testing.T) *Disk {
	t.Helper()
	d := New()
	for f := range 16 {
		write(t, d, f, 0, zeros(640))
		sync(t, d, f)
	}
	return d
}

func checkPending(t *testing.T, about string, d *Disk, want ...[2]int) {
	t.Helper()
	if got := pendingOf(d); !slices.Equal(got, want) {
		t.Errorf("%s: %v instead of %v", about, got, want)
	}
}

func TestWhichSectorsArePending(t *testing.T) {
	for _, c := range []struct{ at, size, first, last int }{
		{0, 1, 0, 0}, {0, 63, 0, 0}, {0, 64, 0, 0}, {0, 65, 0, 1},
		{1, 63, 0, 0}, {1, 64, 0, 1}, {62, 2, 0, 0}, {62, 3, 0, 1},
		{63, 1, 0, 0}, {63, 2, 0, 1}, {63, 65, 0, 1}, {63, 66, 0, 2},
		{64, 1, 1, 1}, {64, 64, 1, 1}, {64, 65, 1, 2}, {65, 63, 1, 1}, {65, 64, 1, 2},
		{127, 1, 1, 1}, {127, 2, 1, 2}, {128, 1, 2, 2}, {0, 640, 0, 9}, {63, 514, 0, 9}, {639, 1, 9, 9},
	} {
		d := blank(t)
		write(t, d, 7, c.at, strings.Repeat("o", c.size))
		var want [][2]int
		for n := c.first; n <= c.last; n++ {
			want = append(want, [2]int{7, n})
		}
		checkPending(t, "a write", d, want...)
		if t.Failed() {
			t.Fatal(c)
		}
	}
}

func TestNothingIsPendingAfterAWriteOfNothing(t *testing.T) {
	d := blank(t)
	for _, at := range []int{0, 1, 63, 64, 65, 639, 640, 641, most} {
		write(t, d, 0, at, "")
	}
	write(t, d, 0, 0, "o")
	write(t, d, 0, 100, "o")
	checkPending(t, "writes", d, [2]int{0, 0}, [2]int{0, 1})
}

func TestOrderOfPendingSectors(t *testing.T) {
	d := blank(t)
	write(t, d, 1, 200, "oo")
	write(t, d, 0, 60, xs(10))
	write(t, d, 0, 60, "oooooooooo")
	write(t, d, 15, 0, "o")
	write(t, d, 1, 0, strings.Repeat("o", 640)) // its sector 3 keeps its place
	write(t, d, 0, 1, "o")
	write(t, d, 15, 64, "o")
	write(t, d, 15, 1, "o")
	checkPending(t, "writes", d, [2]int{1, 3}, [2]int{0, 0}, [2]int{0, 1}, [2]int{15, 0}, [2]int{1, 0}, [2]int{1, 1}, [2]int{1, 2}, [2]int{1, 4}, [2]int{1, 5}, [2]int{1, 6}, [2]int{1, 7}, [2]int{1, 8}, [2]int{1, 9}, [2]int{15, 1})
}

func TestSectorsThatAreNotPendingAnyMoreLoseTheirPlace(t *testing.T) {
	d := blank(t)
	write(t, d, 1, 100, xs(200))
	write(t, d, 15, 0, xs(100))
	write(t, d, 2, 64, xs(100))
	write(t, d, 0, 60, "oooooooooo")
	sync(t, d, 1)
	expect(t, "Truncate", d.Truncate(15, 640), api.OK)
	write(t, d, 1, 200, "o")
	write(t, d, 15, 64, "o")
	write(t, d, 2, 100, strings.Repeat("o", 100))
	write(t, d, 1, 100, "o")
	checkPending(t, "writes", d, [2]int{2, 1}, [2]int{2, 2}, [2]int{0, 0}, [2]int{0, 1}, [2]int{1, 3}, [2]int{15, 1}, [2]int{2, 3}, [2]int{1, 1})
}

func TestBytesBeforeAWriteArePendingWithItsSectorOnly(t *testing.T) {
	d := with(t, "abc")
	write(t, d, 0, 130, "x")
	// Only one sector is pending: what is before it is not in any list, and there is no other one that could survive.
	expectAfterCrash(t, d, []int{1, 0, 0}, 0, "abc"+zeros(127)+"x")
	expectAfterCrash(t, d, []int{0, 1, 1}, 0, "abc")
	d = with(t, "abc")
	write(t, d, 0, 60, "wxyz!")
	expectAfterCrash(t, d, []int{1, 0}, 0, "abc"+zeros(57)+"wxyz")
	expectAfterCrash(t, d, []int{0, 1}, 0, "abc"+zeros(61)+"!")
}

func TestWriteIsSeenAtOnceAndMayBeLost(t *testing.T) {
	d := with(t, "abc")
	write(t, d, 0, 0, "X")
	write(t, d, 0, 0, "Y")
	expectFile(t, d, 0, "Ybc")
	expectAfterCrash(t, d, nil, 0, "abc")
	expectAfterCrash(t, d, []int{1}, 0, "Ybc")
	expectAfterCrash(t, d, []int{0, 1}, 0, "abc") // the sector is pending once
}

func TestSync(t *testing.T) {
	d := with(t, "abc")
	write(t, d, 0, 1, "XYZ")
	write(t, d, 0, 200, "q")
	write(t, d, 1, 0, "other")
	want := "aXYZ" + zeros(196) + "q"
	sync(t, d, 0)
	expectFile(t, d, 0, want)
	for _, keep := range keeps {
		expectAfterCrash(t, d, keep, 0, want)
	}
	expectAfterCrash(t, d, nil, 1, "")
	expectAfterCrash(t, d, []int{1, 0}, 1, "other") // it is the first pending sector now
	sync(t, d, 0)
	sync(t, d, 2)
	expectAfterCrash(t, d, nil, 0, want)
	expectAfterCrash(t, d, nil, 1, "")
}

func TestSyncOfOtherFiles(t *testing.T) {
	d := blank(t)
	for _, f := range []int{3, 5, 3, 4, 5} {
		write(t, d, f, 64*f, "oo")
		write(t, d, f, 0, "o")
	}
	sync(t, d, 3)
	sync(t, d, 9)
	expectAfterCrash(t, d, nil, 3, "o"+zeros(191)+"oo"+zeros(446))
	expectAfterCrash(t, d, nil, 5, zeros(640))
	expectAfterCrash(t, d, []int{1, 0}, 5, zeros(320)+"oo"+zeros(318))
	expectAfterCrash(t, d, []int{0, 1}, 5, "o"+zeros(639))
	expectAfterCrash(t, d, []int{0, 0, 1, 0}, 4, zeros(256)+"oo"+zeros(382))
	expectAfterCrash(t, d, []int{0, 0, 0, 1}, 4, "o"+zeros(639))
}

func TestLostSyncs(t *testing.T) {
	for _, c := range []struct{ n, lost int }{{0, 0}, {1, 1}, {2, 2}, {5, 5}, {-1, 0}, {math.MinInt, 0}} {
		d := with(t, "abc")
		write(t, d, 0, 0, "X")
		d.Lose(9)
		d.Lose(c.n)
		for i := range c.lost {
			before := d.Copy()
			expect(t, "Sync", d.Sync(i%2*15), api.ErrLost)
			checkUnchanged(t, "Sync", d, before)
			expectAfterCrash(t, d, nil, 0, "abc")
		}
		sync(t, d, 0)
		expectAfterCrash(t, d, nil, 0, "Xbc")
	}
}

func TestOnlySyncsAreLost(t *testing.T) {
	d := with(t, "abc")
	d.Lose(math.MaxInt)
	for range 3 {
		write(t, d, 0, 0, "XYZ")
		expect(t, "Sync", d.Sync(0), api.ErrLost)
		expect(t, "Sync of no file", d.Sync(16), api.ErrArg)
	}
	expect(t, "Truncate", d.Truncate(0, 2), api.OK)
	expectAfterCrash(t, d, nil, 0, "XY")
	expect(t, "Sync", d.Sync(0), api.ErrLost)
	d.Lose(0)
	sync(t, d, 0)
}

func TestTruncate(t *testing.T) {
	s := letters(200)
	for _, n := range []int{0, 1, 2, 62, 63, 64, 65, 127, 128, 129, 192, 199, 200} {
		d := with(t, xs(50))
		write(t, d, 0, 0, s)
		expect(t, "Truncate", d.Truncate(0, n), api.OK)
		expectFile(t, d, 0, s[:n])
		for _, keep := range keeps {
			expectAfterCrash(t, d, keep, 0, s[:n])
		}
		// What was cut off does not come back when the file gets longer.
		write(t, d, 0, 300, "q")
		want := s[:n] + zeros(300-n) + "q"
		expectFile(t, d, 0, want)
		expectAfterCrash(t, d, []int{1, 0}, 0, want)
		expectAfterCrash(t, d, []int{0, 1}, 0, s[:n])
		sync(t, d, 0)
		expectAfterCrash(t, d, nil, 0, want)
	}
}

func TestTruncateOfADurableFile(t *testing.T) {
	s := letters(200)
	for _, n := range []int{0, 1, 63, 64, 65, 128, 199} {
		d := with(t, s)
		expect(t, "Truncate", d.Truncate(0, n), api.OK)
		expectFile(t, d, 0, s[:n])
		write(t, d, 0, 260, "q")
		expectAfterCrash(t, d, nil, 0, s[:n])
		expectAfterCrash(t, d, []int{1}, 0, s[:n]+zeros(260-n)+"q")
	}
}

func TestTruncateErrors(t *testing.T) {
	d := used(t)
	before := d.Copy()
	for _, n := range []int{-1, -64, math.MinInt, 101, 102, 128, most, most + 1, math.MaxInt} {
		expect(t, "Truncate", d.Truncate(0, n), api.ErrArg)
	}
	expect(t, "Truncate of an empty file", d.Truncate(1, 1), api.ErrArg)
	checkUnchanged(t, "Truncate", d, before)
	expect(t, "Truncate of an empty file", d.Truncate(1, 0), api.OK)
	expect(t, "Truncate", d.Truncate(0, 100), api.OK)
}

func TestTruncateLeavesWhatIsPendingOfOtherFiles(t *testing.T) {
	d := blank(t)
	write(t, d, 1, 0, "o")
	write(t, d, 0, 0, strings.Repeat("o", 200))
	write(t, d, 1, 64, "o")
	expect(t, "Truncate", d.Truncate(0, 640), api.OK)
	expectAfterCrash(t, d, []int{1, 0}, 1, "o"+zeros(639))
	expectAfterCrash(t, d, []int{0, 1}, 1, zeros(64)+"o"+zeros(575))
	expectAfterCrash(t, d, nil, 0, strings.Repeat("o", 200)+zeros(440))
}

func TestTruncateLeavesTheBytesOfOtherFiles(t *testing.T) {
	for _, f := range []int{1, 15} {
		d := with(t, letters(200))
		write(t, d, f, 0, letters(200))
		sync(t, d, f)
		write(t, d, f, 150, "X")
		expect(t, "Truncate", d.Truncate(0, 10), api.OK)
		expectFile(t, d, f, letters(150)+"X"+letters(200)[151:])
		expectAfterCrash(t, d, nil, f, letters(200))
		expectFile(t, d, 0, letters(10))
	}
}
