package journal

import (
	"math"
	"slices"
	"strconv"
	"testing"

	"taquin/api"
	"taquin/disk"
)

// P5.3: Cut.

func TestCut(t *testing.T) {
	l := []string{"a", "", "b\x00\n", text(100, 1), "1:a,"}
	for have := range len(l) + 1 {
		for n := range have + 1 {
			about := strconv.Itoa(have) + " strings, Cut to " + strconv.Itoa(n)
			d := disk.New()
			j := open(t, d, 4)
			appendTo(t, j, l[:have]...)
			log := contents(d, 4)
			expect(t, about, j.Cut(n), api.OK)
			expectList(t, about, j, l[:n]...)
			if contents(d, 4) != log || contents(afterCrash(d, nil), 4) != log {
				t.Errorf("%s: the log", about)
			}
			if have > 0 {
				expectNoted(t, about, d, 4, numbers(l[:n]...))
			}
			expectList(t, about+", opened again", open(t, d.Copy(), 4), l[:n]...)
			expectList(t, about+", a crash", open(t, afterCrash(d, nil), 4), l[:n]...)
		}
	}
}

func TestCutInScenes(t *testing.T) {
	eachScene(t, func(t *testing.T, again func() (*player, *pair)) {
		_, x := again()
		have := len(x.model.list)
		for n := -1; n <= have+1; n++ {
			p, x := again()
			want := api.Errno(api.OK)
			if n < 0 || n > have {
				want = api.ErrArg
			}
			expect(t, "Cut to "+strconv.Itoa(n), p.cut(x, n), want)
			p.compare(keeps...)
			expect(t, "Append", p.append(x, "more", text(90, 9)), api.OK)
			p.compare(keeps...)
			reopen(p, x)
			p.compare(keeps...)
		}
	})
}

func TestCutToWhatIsNoLength(t *testing.T) {
	d := disk.New()
	j := open(t, d, 4)
	for _, l := range [][]string{nil, {"a", "b", "c"}} {
		appendTo(t, j, l...)
		before := d.Copy()
		for _, n := range []int{-1, -2, -1 << 32, math.MinInt, len(l) + 1, len(l) + 2, 1 << 32, math.MaxInt} {
			expect(t, "Cut to "+strconv.Itoa(n), j.Cut(n), api.ErrArg)
			expectList(t, "after that", j, l...)
		}
		if diff := differ(d, before); diff != "" {
			t.Error(diff)
		}
	}
}

func TestCutAfterCut(t *testing.T) {
	l := slices.Concat(long(), short())
	for first := range len(l) + 1 {
		for second := range first + 2 {
			d := disk.New()
			j := open(t, d, 4)
			appendTo(t, j, l...)
			cut(t, j, first)
			if second > first {
				expect(t, "more than there are", j.Cut(second), api.ErrArg)
				expectList(t, "after that", j, l[:first]...)
				continue
			}
			cut(t, j, second)
			expectList(t, "two Cuts", j, l[:second]...)
			expectNoted(t, "two Cuts", d, 4, numbers(l[:second]...))
			expectList(t, "opened again", open(t, afterCrash(d, nil), 4), l[:second]...)
		}
	}
}

func TestAppendAfterCut(t *testing.T) {
	l := slices.Concat(long(), short())
	for n := range len(l) + 1 {
		for _, more := range lists() {
			d := disk.New()
			j := open(t, d, 4)
			appendTo(t, j, l...)
			cut(t, j, n)
			appendTo(t, j, more...)
			want := slices.Concat(l[:n], more)
			expectList(t, "Append after Cut", j, want...)
			expectNoted(t, "Append after Cut", d, 4, numbers(want...))
			// What was cut off stands behind it still, if it is longer.
			log, old := encoded(want...), encoded(l...)
			if len(log) < len(old) {
				log += old[len(log):]
			}
			if contents(d, 4) != log {
				t.Errorf("Cut to %d, Append of %s: the log", n, show(more))
			}
			expectList(t, "opened again", open(t, afterCrash(d, nil), 4), want...)
			cut(t, j, len(want)/2)
			expectList(t, "another Cut", j, want[:len(want)/2]...)
		}
	}
}

func TestCutWhileTheMachineIsDown(t *testing.T) {
	eachScene(t, func(t *testing.T, again func() (*player, *pair)) {
		p, x := again()
		n := len(x.model.list)
		p.crash([]int{1})
		expect(t, "Cut to Len", p.cut(x, n), api.OK)
		expect(t, "Cut to more", p.cut(x, n+1), api.ErrArg) // ahead of the error of the disk
		expect(t, "Cut to -1", p.cut(x, -1), api.ErrArg)
		p.compare()
		if n == 0 {
			return
		}
		expect(t, "Cut", p.cut(x, n-1), api.ErrDown)
		expect(t, "Cut to Len", p.cut(x, n), api.ErrState)
		expect(t, "Cut to -1", p.cut(x, -1), api.ErrState)
		p.compare(nil)
	})
}

func TestCutThatWasLost(t *testing.T) {
	for _, reopen := range []bool{false, true} {
		d, j := after(t, reopen, appends("a", "b", "c"))()
		d.Lose(1)
		expect(t, "Cut", j.Cut(1), api.ErrLost)
		expectList(t, "after a lost sync", j, "a", "b", "c")
		expect(t, "Cut to Len", j.Cut(3), api.ErrState)
		expectNoted(t, "the cell", d, 4, "12;3;")
		j = open(t, d, 4)
		expectList(t, "opened again", j, "a", "b", "c")
		cut(t, j, 1)
		expectList(t, "another Cut", open(t, afterCrash(d, nil), 4), "a")
	}
}
