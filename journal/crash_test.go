package journal

import (
	"slices"
	"strconv"
	"testing"

	"taquin/api"
	"taquin/disk"
)

// P5.6: what a crash can leave.

// patterns returns ways in which up to n pending sectors survive: none, all, every other one, and each one alone.
func patterns(n int) [][]int {
	list := [][]int{nil, {1}, {1, 0}, {0, 1}}
	for i := range n {
		alone := make([]int, n)
		alone[i] = 1
		list = append(list, alone)
	}
	return list
}

func TestCrashAtEachCall(t *testing.T) {
	eachChange(t, func(t *testing.T, again func() (*player, *pair), c change) {
		for _, keep := range patterns(6) {
			for n := 1; ; n++ {
				p, x := again()
				p.arm(n, keep)
				if err := c.call(p, x); err == api.OK {
					break
				}
				p.start()
				reopen(p, x) // which checks what is there
				p.compare(nil, []int{1})
				expect(t, "Append", p.append(x, "more"), api.OK)
				p.compare(nil, []int{1})
			}
		}
	})
}

// pend leaves sectors of the log or of the cell pending, and the journal to be opened.
func pend(p *player, x *pair) []func() {
	list := []func(){
		func() {},
		func() { loseAppend(p, x, "x") },
		func() { loseAppend(p, x, text(200, 5), "", text(130, 6)) },
	}
	if n := len(x.model.list); n > 0 {
		list = append(list, func() { loseCut(p, x, 0) }, func() { loseCut(p, x, n-1) })
	}
	return list
}

func TestCrashAtEachCallOfOpen(t *testing.T) {
	eachScene(t, func(t *testing.T, again func() (*player, *pair)) {
		p, x := again()
		for i := range pend(p, x) {
			for _, keep := range patterns(6) {
				for n := 1; n <= 3; n++ {
					p, x := again()
					pend(p, x)[i]()
					p.arm(n, keep)
					if err := p.open(x); (err == api.ErrDown) != (n < 3) {
						p.fail("a crash at the call " + strconv.Itoa(n))
					}
					p.crash(keep)
					p.start()
					reopen(p, x)
					p.compare(nil, []int{1})
					expect(t, "Append", p.append(x, "more"), api.OK)
					p.compare(nil, []int{1})
				}
			}
		}
	})
}

func TestCrashWithoutACall(t *testing.T) {
	eachScene(t, func(t *testing.T, again func() (*player, *pair)) {
		p, x := again()
		for i := range pend(p, x) {
			for _, keep := range patterns(6) {
				p, x := again()
				pend(p, x)[i]()
				p.crash(keep)
				p.start()
				reopen(p, x)
				p.compare(nil, []int{1})
			}
		}
	})
}

// Both lists come about: so the theorem is not kept by a journal that never changes, or that changes too soon.
func TestCrashesLeaveBothLists(t *testing.T) {
	for _, row := range []struct {
		about         string
		call          func(j *Journal) api.Errno
		steps, header int // how many calls of the disk there are, and which one writes the header of the cell
		want          []string
	}{
		{"Append", appends("c", text(200, 1)), 6, 5, []string{"a", "b", "c", text(200, 1)}},
		{"Cut", cuts(1), 4, 3, []string{"a"}},
	} {
		for n := 1; n <= row.steps; n++ {
			for _, keep := range [][]int{nil, {1}} {
				d, j := after(t, false, appends("a", "b"))()
				d.Arm(n, keep)
				about := row.about + ", a crash at the call " + strconv.Itoa(n)
				expect(t, about, row.call(j), api.ErrDown)
				d.Start()
				want := []string{"a", "b"}
				if n >= row.header && keep != nil { // the header was written, and survives
					want = row.want
				}
				expectList(t, about, open(t, d, 4), want...)
			}
		}
	}
}

// A list that is torn is not there, even if the log is longer than it was, and has its last bytes.
func TestCrashTearsTheLog(t *testing.T) {
	old, added := []string{text(50, 1)}, []string{text(300, 2), "end"}
	for n := 1; n <= 2; n++ {
		for _, keep := range patterns(7) {
			d, j := after(t, false, appends(old...))()
			d.Arm(n, keep)
			expect(t, "Append", j.Append(added), api.ErrDown)
			d.Start()
			j = open(t, d, 4)
			expectList(t, "after a crash", j, old...)
			appendTo(t, j, added...)
			expectList(t, "appended again", open(t, afterCrash(d, nil), 4), slices.Concat(old, added)...)
		}
	}
}

func TestCrashesOfLongLists(t *testing.T) {
	old, added := []string{text(Max/2, 1), ""}, []string{"a", text(Max/3, 2)}
	for n := 1; n <= 6; n++ {
		for _, keep := range [][]int{nil, {1}, {1, 0}, {0, 1}} {
			d, j := after(t, false, appends(old...))()
			d.Arm(n, keep)
			expect(t, "Append", j.Append(added), api.ErrDown)
			d.Start()
			j = open(t, d, 4)
			if j.Len() == 2 {
				expectList(t, "the old list", j, old...)
			} else {
				expectList(t, "the new list", j, slices.Concat(old, added)...)
			}
			cut(t, j, 1)
			appendTo(t, j, added...)
			d.Crash(keep)
			d.Start()
			expectList(t, "after another crash", open(t, d, 4), old[0], added[0], added[1])
		}
	}
}

// Several crashes and openings one after the other.

func TestCrashesOneAfterTheOther(t *testing.T) {
	ways := [2][]int{{1, 0}, {0, 1}}
	// crashIn lets the machine crash at a call, or after it, and opens the journal again.
	crashIn := func(p *player, x *pair, n, way int, call func()) {
		p.arm(n, ways[way%2])
		call()
		p.crash(ways[way%2])
		p.start()
		reopen(p, x)
	}
	for _, lists := range [][][]string{nil, {short()}, {long(), short()}} {
		for i := range 7 * 6 * 8 {
			for way := range 8 {
				p := newPlayer(t, sceneBase)
				x := p.pairs[0]
				begin(p, x, lists...)
				crashIn(p, x, i%7+1, way, func() { p.append(x, text(150, 5), "x") })
				crashIn(p, x, i/7%6+1, way/2, func() { p.cut(x, x.journal.Len()/2) })
				crashIn(p, x, i/42+1, way/4, func() { p.append(x, "y", text(90, 6)) })
				expect(t, "Append", p.append(x, "z"), api.OK)
				p.compare(nil)
			}
		}
	}
}

func TestLostSyncsOneAfterTheOther(t *testing.T) {
	eachScene(t, func(t *testing.T, again func() (*player, *pair)) {
		p, x := again()
		for round := range 4 {
			for i := range pend(p, x) {
				pend(p, x)[i]()
				p.compare(keeps...)
				p.lose(2)
				for range 2 {
					expect(t, "Open", p.open(x), api.ErrLost)
					p.compare(keeps...)
				}
				reopen(p, x)
				p.compare(keeps...)
			}
			expect(t, "Append", p.append(x, text(50*round, round)), api.OK)
		}
	})
}

// P5.7: what stays.

func TestWhatWasThereStays(t *testing.T) {
	d := disk.New()
	j := open(t, d, 4)
	var list []string
	check := func(about string) {
		t.Helper()
		for _, keep := range patterns(6) {
			again := open(t, afterCrash(d, keep), 4)
			if again.Len() < len(list) || !slices.Equal(again.All()[:len(list)], list) {
				t.Errorf("%s: %s", about, show(again.All()))
			}
		}
	}
	for round := range 12 {
		l := lists()[round%8]
		appendTo(t, j, l...)
		list = append(list, l...)
		check("Append")
		d.Lose(1)
		expect(t, "Append", j.Append([]string{text(200, round)}), api.ErrLost)
		check("a lost sync")
		j = open(t, d, 4)
		check("Open")
		d.Arm(1+round%7, keeps[round%5])
		expect(t, "Append", j.Append([]string{"x", text(90, round)}), api.ErrDown)
		d.Start()
		j = open(t, d, 4)
		check("a crash")
		if n := j.Len(); n > len(list) { // it is there as a whole
			cut(t, j, n-1)
			list = append(list, "x")
		}
		check("Cut of what came later")
	}
}

func TestWhatWasCutStaysAway(t *testing.T) {
	d, j := after(t, false, appends("a", "b", "c"), cuts(1))()
	for _, keep := range keeps {
		expectList(t, "after a crash", open(t, afterCrash(d, keep), 4), "a")
	}
	d.Lose(1)
	expect(t, "Append", j.Append([]string{"d"}), api.ErrLost)
	for _, keep := range keeps {
		expectList(t, "after a crash", open(t, afterCrash(d, keep), 4), "a")
	}
}
