package journal

import (
	"slices"
	"strconv"
	"strings"
	"testing"

	"taquin/api"
	"taquin/disk"
)

// P5.2: Append.

// lists returns what is appended in a scene.
func lists() [][]string {
	return [][]string{nil, {}, {""}, {"x"}, {"", "", ""}, {"\x00", "\n", "1:a,"}, {text(300, 5)}, {text(70, 6), "", text(1, 7), text(64, 8)}}
}

func TestAppend(t *testing.T) {
	eachScene(t, func(t *testing.T, again func() (*player, *pair)) {
		for _, l := range lists() {
			p, x := again()
			expect(t, "Append", p.append(x, l...), api.OK)
			p.compare(keeps...)
			expect(t, "another Append", p.append(x, "more"), api.OK)
			p.compare(keeps...)
			reopen(p, x)
			p.compare(keeps...)
		}
	})
}

func TestAppendOneByOneOrAtOnce(t *testing.T) {
	l := slices.Concat(plain, long(), short())
	a, b := disk.New(), disk.New()
	x, y := open(t, a, 0), open(t, b, 0)
	for _, s := range l {
		appendTo(t, x, s)
	}
	appendTo(t, y, l...)
	expectList(t, "one by one", x, l...)
	expectList(t, "at once", y, l...)
	if contents(a, 0) != contents(b, 0) || contents(a, 0) != encoded(l...) {
		t.Error("the logs")
	}
	expectNoted(t, "one by one", a, 0, numbers(l...))
	expectNoted(t, "at once", b, 0, numbers(l...))
}

// What is written is the form of the new strings, and not that of the list.
func TestAppendWritesOnlyWhatIsNew(t *testing.T) {
	d := disk.New()
	j := open(t, d, 4)
	appendTo(t, j, text(1000, 1))
	expect(t, "Write", d.Write(4, 100, "X"), api.OK) // by somebody else
	appendTo(t, j, "b")
	if got := contents(d, 4); got[100] != 'X' || !strings.HasSuffix(got, ",1:b,") {
		t.Error("the old strings are written again")
	}
}

func TestMax(t *testing.T) {
	if Max != 1048576 {
		t.Error(Max)
	}
}

func TestAppendUpToMax(t *testing.T) {
	greatest := text(Max-len("1048567:,"), 1) // whose form has Max bytes
	if len(encoded(greatest)) != Max {
		t.Fatal("the length of the form")
	}
	d := disk.New()
	j := open(t, d, 0)
	for _, l := range [][]string{{greatest + "x"}, {greatest, ""}, {"", greatest}, {tooMuch}, {"", tooMuch}, {text(20*Max, 2)}} {
		expect(t, "a first Append of too much", j.Append(l), api.ErrFull)
	}
	expectList(t, "after that", j)
	appendTo(t, j, greatest)
	expectList(t, "a first Append", j, greatest)
	expectList(t, "opened again", open(t, afterCrash(d, nil), 0), greatest)
	expect(t, "more", j.Append([]string{""}), api.ErrFull)
	expect(t, "nothing more", j.Append(nil), api.OK)
	cut(t, j, 0)
	appendTo(t, j, greatest)
	expectList(t, "opened again", open(t, afterCrash(d, nil), 0), greatest)
	if contents(d, 0) != encoded(greatest) {
		t.Error("the log")
	}
}

func TestLaterAppendUpToMax(t *testing.T) {
	for _, first := range [][]string{{""}, {"a"}, {text(1000, 1), "b"}, {text(Max-100, 1)}, {text(Max/2, 1), text(Max/2-1000, 2)}} {
		room := Max - len(encoded(first...))
		n := room - len(strconv.Itoa(room)) - 2
		for len(encoded(text(n, 3))) > room {
			n--
		}
		rest := []string{text(n, 3)}
		if len(encoded(rest...)) != room {
			t.Fatal("the length of the form")
		}
		for _, reopen := range []bool{false, true} {
			d := disk.New()
			j := open(t, d, 0)
			appendTo(t, j, first...)
			if reopen {
				j = open(t, d, 0)
			}
			for _, l := range [][]string{{text(n+1, 3)}, {text(n, 3), ""}, {"", text(n, 3)}, {tooMuch}} {
				expect(t, "too much", j.Append(l), api.ErrFull)
			}
			expectList(t, "after that", j, first...)
			appendTo(t, j, rest...)
			want := slices.Concat(first, rest)
			expectList(t, "Append", j, want...)
			expect(t, "more", j.Append([]string{""}), api.ErrFull)
			j = open(t, afterCrash(d, nil), 0)
			expectList(t, "opened again", j, want...)
			expect(t, "more", j.Append([]string{""}), api.ErrFull)
			cut(t, j, len(want)-1)
			appendTo(t, j, text(n, 4))
		}
	}
}

// The limit is one of the bytes of the form, not of those of the strings, nor of their number.
func TestAppendOfManyStringsUpToMax(t *testing.T) {
	for _, s := range []string{"", "a", "0123456789"} {
		one := len(encoded(s))
		n := Max / one
		for _, first := range []int{0, 1, 5} {
			j := open(t, disk.New(), 0)
			appendTo(t, j, slices.Repeat([]string{s}, first)...)
			expect(t, "one too many", j.Append(slices.Repeat([]string{s}, n-first+1)), api.ErrFull)
			expect(t, "as many as there is room for", j.Append(slices.Repeat([]string{s}, n-first)), api.OK)
			if j.Len() != n || j.Get(n-1) != s || j.Get(n) != "" {
				t.Errorf("%d strings instead of %d", j.Len(), n)
			}
			expect(t, "one more", j.Append([]string{s}), api.ErrFull)
		}
	}
}

// A list whose form would be far too long for any memory, as it has one string many times.
func TestAppendOfFarTooMuch(t *testing.T) {
	j := open(t, disk.New(), 0)
	expect(t, "Append", j.Append(slices.Repeat([]string{tooMuch[9:]}, 1000000)), api.ErrFull)
	expect(t, "Append", j.Append(slices.Repeat([]string{tooMuch}, 1000000)), api.ErrFull)
	expect(t, "Append", j.Append(make([]string, 10000000)), api.ErrFull)
	expectList(t, "after that", j)
	appendTo(t, j, "a")
}

func TestAppendWhileTheMachineIsDown(t *testing.T) {
	eachScene(t, func(t *testing.T, again func() (*player, *pair)) {
		p, x := again()
		p.crash([]int{1})
		expect(t, "Append()", p.append(x), api.OK)
		expect(t, "Append of too much", p.append(x, tooMuch), api.ErrFull) // ahead of the error of the disk
		expect(t, "Append()", p.append(x), api.OK)
		p.compare()
		expect(t, "Append", p.append(x, "x"), api.ErrDown)
		expect(t, "Append of too much", p.append(x, tooMuch), api.ErrState)
		expect(t, "Append()", p.append(x), api.ErrState)
		p.compare(nil)
	})
}

func TestAppendWithALostSync(t *testing.T) {
	eachScene(t, func(t *testing.T, again func() (*player, *pair)) {
		for _, l := range lists()[2:] {
			p, x := again()
			p.lose(2)
			expect(t, "Append", p.append(x, l...), api.ErrLost)
			p.compare(keeps...)
			expect(t, "the other lost sync", p.open(x), api.ErrLost)
			reopen(p, x)
			expect(t, "Append", p.append(x, l...), api.OK)
			p.compare(keeps...)
		}
	})
}

// What an Append leaves that was lost is no part of the list, even if it is there.
func TestAppendThatWasLostIsNotThere(t *testing.T) {
	d := disk.New()
	j := open(t, d, 4)
	appendTo(t, j, "a")
	d.Lose(1)
	expect(t, "Append", j.Append([]string{"b", "c"}), api.ErrLost)
	expectList(t, "after a lost sync", j, "a")
	if contents(d, 4) != "1:a,1:b,1:c," || contents(afterCrash(d, nil), 4) != "1:a," {
		t.Error("the log")
	}
	expectNoted(t, "the cell", d, 4, "4;1;")
	j = open(t, d, 4)
	expectList(t, "opened again", j, "a")
	appendTo(t, j, "d")
	if got := contents(d, 4); got != "1:a,1:d,1:c," {
		t.Errorf("the log is %q", got)
	}
	expectList(t, "opened again", open(t, d, 4), "a", "d")
}

// Errors of the disk, and what comes after them.

// expectFailed checks that a journal makes no more changes, and no more calls of the disk.
func expectFailed(p *player, x *pair) {
	p.t.Helper()
	before := p.disk.Copy()
	list := slices.Clone(x.model.list)
	p.arm(1, nil)
	for range 2 {
		for _, l := range [][]string{nil, {}, {""}, {"x", "y"}, {tooMuch}, {"x", tooMuch}} {
			expect(p.t, "Append after an error", p.append(x, l...), api.ErrState)
		}
		for _, n := range []int{-1, 0, len(list) - 1, len(list), len(list) + 1} {
			expect(p.t, "Cut after an error", p.cut(x, n), api.ErrState)
		}
		expectList(p.t, "after an error", x.journal, list...)
	}
	p.arm(0, nil)
	if diff := differ(p.disk, before); diff != "" {
		p.fail(diff)
	}
}

// change is a call that changes the list of a scene, or would.
type change struct {
	about string
	call  func(p *player, x *pair) api.Errno
}

// changes returns such calls.
func changes(x *pair) []change {
	list := []change{
		{"Append of one", func(p *player, x *pair) api.Errno { return p.append(x, "x") }},
		{"Append of several", func(p *player, x *pair) api.Errno { return p.append(x, text(130, 5), "", text(70, 6)) }},
	}
	if n := len(x.model.list); n > 0 {
		list = append(list,
			change{"Cut of one", func(p *player, x *pair) api.Errno { return p.cut(x, n-1) }},
			change{"Cut of all", func(p *player, x *pair) api.Errno { return p.cut(x, 0) }})
	}
	return list
}

// eachChange runs a test with each of the scenes and each of the calls that change it.
func eachChange(t *testing.T, test func(t *testing.T, again func() (*player, *pair), c change)) {
	eachScene(t, func(t *testing.T, again func() (*player, *pair)) {
		_, x := again()
		for _, c := range changes(x) {
			test(t, again, c)
		}
	})
}

func TestAfterALostSync(t *testing.T) {
	eachChange(t, func(t *testing.T, again func() (*player, *pair), c change) {
		p, x := again()
		p.lose(1)
		expect(t, c.about, c.call(p, x), api.ErrLost)
		p.compare(keeps...)
		expectFailed(p, x)
		p.compare(keeps...)
		reopen(p, x) // which makes up for it
		expect(t, c.about, c.call(p, x), api.OK)
		p.compare(keeps...)
	})
}

func TestAfterACrash(t *testing.T) {
	eachChange(t, func(t *testing.T, again func() (*player, *pair), c change) {
		for n := 1; ; n++ {
			p, x := again()
			p.arm(n, []int{1, 0})
			err := c.call(p, x)
			if err == api.OK {
				break
			}
			expect(t, c.about+", call "+strconv.Itoa(n), err, api.ErrDown)
			expectFailed(p, x)
			p.compare(nil)
		}
	})
}

// ErrFull and ErrArg are no errors of the disk.
func TestAfterOtherErrors(t *testing.T) {
	eachScene(t, func(t *testing.T, again func() (*player, *pair)) {
		p, x := again()
		list := slices.Clone(x.model.list)
		for range 2 {
			expect(t, "Append", p.append(x, tooMuch), api.ErrFull)
			expect(t, "Cut", p.cut(x, -1), api.ErrArg)
			expect(t, "Cut", p.cut(x, len(list)+1), api.ErrArg)
			expectList(t, "after ErrFull and ErrArg", x.journal, list...)
			p.compare(keeps...)
		}
		expect(t, "Append", p.append(x, "x"), api.OK)
		expect(t, "Cut", p.cut(x, len(list)+2), api.ErrArg)
		expect(t, "Cut", p.cut(x, len(list)), api.OK)
		p.compare(keeps...)
	})
}
