package journal

import (
	"strconv"
	"testing"

	"taquin/api"
	"taquin/disk"
)

// step is a call of the disk: a Write, or, without bytes, a Sync.
type step struct {
	file, at int
	s        string
}

// perform makes calls up to the first one that returns an error, and returns this error.
func perform(d *disk.Disk, list []step) api.Errno {
	for _, p := range list {
		err := api.Errno(api.OK)
		if p.s == "" {
			err = d.Sync(p.file)
		} else {
			err = d.Write(p.file, p.at, p.s)
		}
		if err != api.OK {
			return err
		}
	}
	return api.OK
}

// expectSteps checks that a call makes exactly these calls of the disk, in this order: by what it leaves, by what a crash at each of them leaves, and by the crash that comes with the call after them.
func expectSteps(t *testing.T, about string, again func() (*disk.Disk, *Journal), call func(j *Journal) api.Errno, list []step) {
	t.Helper()
	for n := 0; n <= len(list)+1; n++ {
		for _, keep := range keeps {
			about := about + ", a crash at the call " + strconv.Itoa(n)
			d, j := again()
			want := d.Copy()
			d.Arm(n, keep)
			want.Arm(n, keep)
			expect(t, about, call(j), perform(want, list))
			expect(t, about+", another call", d.Sync(0), want.Sync(0))
			if diff := differ(d, want); diff != "" {
				t.Errorf("%s: %s", about, diff)
			}
		}
	}
}

// after returns how to make a journal with the base 4 in new files, with which something is done. If it is opened again, the cell is not known to be durable.
func after(t *testing.T, reopen bool, then ...func(j *Journal) api.Errno) func() (*disk.Disk, *Journal) {
	return func() (*disk.Disk, *Journal) {
		t.Helper()
		d := disk.New()
		j := open(t, d, 4)
		for _, f := range then {
			expect(t, "before", f(j), api.OK)
		}
		if reopen {
			j = open(t, d, 4)
		}
		return d, j
	}
}

func appends(l ...string) func(j *Journal) api.Errno {
	return func(j *Journal) api.Errno { return j.Append(l) }
}

func cuts(n int) func(j *Journal) api.Errno {
	return func(j *Journal) api.Errno { return j.Cut(n) }
}

// P5.2 and P5.3: the calls of Append and Cut.

func TestAppendMakesTheCalls(t *testing.T) {
	expectSteps(t, "new files", after(t, false), appends("a", "bc"), []step{
		{4, 0, "1:a,2:bc,"}, {file: 4}, {5, 64, "9;2;"}, {file: 5}, {5, 0, "\x01\x04\x00\x00\x00"}, {file: 5},
	})
	expectSteps(t, "new files, opened twice", after(t, true), appends(""), []step{
		{4, 0, "0:,"}, {file: 4}, {5, 64, "3;1;"}, {file: 5}, {5, 0, "\x01\x04\x00\x00\x00"}, {file: 5},
	})
	expectSteps(t, "a second Append", after(t, false, appends("a", "bc")), appends("d"), []step{
		{4, 9, "1:d,"}, {file: 4}, {5, 131072, "13;3;"}, {file: 5}, {5, 0, "\x02\x05\x00\x00\x00"}, {file: 5},
	})
	expectSteps(t, "opened again", after(t, true, appends("a", "bc")), appends("d"), []step{
		{4, 9, "1:d,"}, {file: 4}, {file: 5}, {5, 131072, "13;3;"}, {file: 5}, {5, 0, "\x02\x05\x00\x00\x00"}, {file: 5},
	})
	expectSteps(t, "after a Cut", after(t, false, appends("a", "bc", "d"), cuts(1)), appends("", text(200, 1)), []step{
		{4, 4, "0:,200:" + text(200, 1) + ","}, {file: 4}, {5, 64, "212;3;"}, {file: 5}, {5, 0, "\x01\x06\x00\x00\x00"}, {file: 5},
	})
	expectSteps(t, "after a Cut of all", after(t, true, appends("a", "bc", "d"), cuts(0)), appends("xy"), []step{
		{4, 0, "2:xy,"}, {file: 4}, {file: 5}, {5, 64, "5;1;"}, {file: 5}, {5, 0, "\x01\x04\x00\x00\x00"}, {file: 5},
	})
	expectSteps(t, "several sectors", after(t, false, appends(text(60, 1))), appends(text(120, 2), text(10, 3)), []step{
		{4, 64, "120:" + text(120, 2) + ",10:" + text(10, 3) + ","}, {file: 4}, {5, 131072, "203;3;"}, {file: 5}, {5, 0, "\x02\x06\x00\x00\x00"}, {file: 5},
	})
}

func TestCutMakesTheCalls(t *testing.T) {
	expectSteps(t, "the last string", after(t, false, appends("a", "bc", "d")), cuts(2), []step{
		{5, 131072, "9;2;"}, {file: 5}, {5, 0, "\x02\x04\x00\x00\x00"}, {file: 5},
	})
	expectSteps(t, "all strings", after(t, false, appends("a", "bc"), appends("d")), cuts(0), []step{
		{5, 64, "0;0;"}, {file: 5}, {5, 0, "\x01\x04\x00\x00\x00"}, {file: 5},
	})
	expectSteps(t, "opened again", after(t, true, appends("a", "bc"), appends("d")), cuts(1), []step{
		{file: 5}, {5, 64, "4;1;"}, {file: 5}, {5, 0, "\x01\x04\x00\x00\x00"}, {file: 5},
	})
	expectSteps(t, "a second Cut", after(t, false, appends(text(100, 1), "b", "c"), cuts(2)), cuts(1), []step{
		{5, 64, "105;1;"}, {file: 5}, {5, 0, "\x01\x06\x00\x00\x00"}, {file: 5},
	})
}

func TestCallsThatDoNothing(t *testing.T) {
	for _, reopen := range []bool{false, true} {
		again := after(t, reopen, appends("a", "bc", "d"), cuts(2))
		expectSteps(t, "Append()", again, func(j *Journal) api.Errno { return j.Append(nil) }, nil)
		expectSteps(t, "Append() of an empty list", again, appends([]string{}...), nil)
		expectSteps(t, "Cut(2)", again, cuts(2), nil)
		expectSteps(t, "Append of too much", again, func(j *Journal) api.Errno {
			expect(t, "Append", j.Append([]string{tooMuch}), api.ErrFull)
			return api.OK
		}, nil)
		for _, n := range []int{-1, 3, 1 << 32} {
			expectSteps(t, "Cut("+strconv.Itoa(n)+")", again, func(j *Journal) api.Errno {
				expect(t, "Cut", j.Cut(n), api.ErrArg)
				return api.OK
			}, nil)
		}
	}
}
