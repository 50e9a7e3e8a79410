package journal

import (
	"testing"

	"taquin/api"
)

// sceneBase is the base of the journal in a scene.
const sceneBase = 4

// scene is what is there before a call, and whether the journal has to be opened.
type scene struct {
	name  string
	begin func(p *player, x *pair)
}

// loseAppend calls Append, with its first Sync lost.
func loseAppend(p *player, x *pair, l ...string) {
	p.t.Helper()
	p.lose(1)
	expect(p.t, "Append", p.append(x, l...), api.ErrLost)
}

// loseCut calls Cut, with its first Sync lost.
func loseCut(p *player, x *pair, n int) {
	p.t.Helper()
	p.lose(1)
	expect(p.t, "Cut", p.cut(x, n), api.ErrLost)
}

// reopen opens a journal; every error is one of the test.
func reopen(p *player, x *pair) {
	p.t.Helper()
	expect(p.t, "Open", p.open(x), api.OK)
}

// crashAndReopen lets the machine crash, and opens a journal again.
func crashAndReopen(p *player, x *pair, keep ...int) {
	p.t.Helper()
	p.crash(keep)
	p.start()
	reopen(p, x)
}

// crashInAppend lets the machine crash at a call of an Append.
func crashInAppend(p *player, x *pair, n int, keep []int, l ...string) {
	p.t.Helper()
	p.arm(n, keep)
	expect(p.t, "Append", p.append(x, l...), api.ErrDown)
	p.start()
}

// begin appends lists to a journal in new files.
func begin(p *player, x *pair, lists ...[]string) {
	p.t.Helper()
	reopen(p, x)
	for _, l := range lists {
		expect(p.t, "Append", p.append(x, l...), api.OK)
	}
}

// Lists of the scenes: one within a sector, and one of several.
func short() []string { return []string{"a", "", "b\x00\n"} }
func long() []string  { return []string{text(130, 1), "1:a,", text(64, 2)} }

// scenes returns the scenes in which the journal is open, and can be changed.
func scenes() []scene {
	return []scene{
		{"new files", func(p *player, x *pair) { begin(p, x) }},
		{"a short list", func(p *player, x *pair) { begin(p, x, short()) }},
		{"two lists", func(p *player, x *pair) { begin(p, x, long(), short()) }},
		{"three lists", func(p *player, x *pair) { begin(p, x, short(), long(), long()) }},
		{"opened", func(p *player, x *pair) { begin(p, x, long()); reopen(p, x) }},
		{"opened twice", func(p *player, x *pair) { begin(p, x, long(), short()); reopen(p, x); reopen(p, x) }},
		{"a crash", func(p *player, x *pair) { begin(p, x, short()); crashAndReopen(p, x) }},
		{"a Cut", func(p *player, x *pair) { begin(p, x, long(), short()); p.cut(x, 2) }},
		{"two Cuts", func(p *player, x *pair) { begin(p, x, long(), short()); p.cut(x, 5); p.cut(x, 2) }},
		{"a Cut of all", func(p *player, x *pair) { begin(p, x, long()); p.cut(x, 0) }},
		{"a Cut of all, opened", func(p *player, x *pair) { begin(p, x, long()); p.cut(x, 0); reopen(p, x) }},
		{"a Cut, and a list", func(p *player, x *pair) { begin(p, x, long()); p.cut(x, 1); p.append(x, short()...) }},
		{"a Cut, opened", func(p *player, x *pair) { begin(p, x, long()); p.cut(x, 2); reopen(p, x) }},
		{"a log without a value", func(p *player, x *pair) { p.put(x, text(300, 3)); reopen(p, x) }},
		{"a log that goes on", func(p *player, x *pair) { p.put(x, "1:a,0:,"+text(300, 3), "7;2;"); reopen(p, x) }},
		{"a value 0", func(p *player, x *pair) { p.put(x, text(100, 3), "0;0;"); reopen(p, x) }},
		{"calls that did nothing", func(p *player, x *pair) {
			begin(p, x, long(), nil)
			expect(p.t, "Append", p.append(x, tooMuch), api.ErrFull)
			expect(p.t, "Cut", p.cut(x, 4), api.ErrArg)
			expect(p.t, "Cut", p.cut(x, -1), api.ErrArg)
			expect(p.t, "Cut", p.cut(x, 3), api.OK)
		}},
		{"a lost Append", func(p *player, x *pair) { begin(p, x, long()); loseAppend(p, x, short()...); reopen(p, x) }},
		{"a lost first Append", func(p *player, x *pair) { begin(p, x); loseAppend(p, x, long()...); reopen(p, x) }},
		{"a lost Append, a crash", func(p *player, x *pair) { begin(p, x, long()); loseAppend(p, x, long()...); crashAndReopen(p, x, 1, 0) }},
		{"a lost Cut", func(p *player, x *pair) { begin(p, x, long()); loseCut(p, x, 1); reopen(p, x) }},
		{"a lost Cut, a crash", func(p *player, x *pair) { begin(p, x, long()); loseCut(p, x, 1); crashAndReopen(p, x, 0, 1) }},
		{"opened, a lost Cut", func(p *player, x *pair) { begin(p, x, long()); reopen(p, x); loseCut(p, x, 0); reopen(p, x) }},
		{"a torn Append", func(p *player, x *pair) {
			begin(p, x, short())
			crashInAppend(p, x, 1, []int{0, 1}, long()...)
			reopen(p, x)
		}},
		{"an Append that is not noted", func(p *player, x *pair) { begin(p, x, short()); crashInAppend(p, x, 5, nil, long()...); reopen(p, x) }},
		{"an Append that is noted", func(p *player, x *pair) {
			begin(p, x, short())
			crashInAppend(p, x, 5, []int{1}, long()...)
			reopen(p, x)
		}},
	}
}

// eachScene runs a test with each of the scenes. What it is given makes the scene anew.
func eachScene(t *testing.T, test func(t *testing.T, again func() (*player, *pair))) {
	for _, sc := range scenes() {
		t.Run(sc.name, func(t *testing.T) {
			test(t, func() (*player, *pair) {
				t.Helper()
				p := newPlayer(t, sceneBase)
				sc.begin(p, p.pairs[0])
				p.note("the scene", sc.name)
				return p, p.pairs[0]
			})
		})
	}
}

func TestScenes(t *testing.T) {
	eachScene(t, func(t *testing.T, again func() (*player, *pair)) {
		p, _ := again()
		p.compare(keeps...)
		expect(t, "Sync of another file", p.disk.Sync(0), api.OK) // no lost sync is due
	})
}
