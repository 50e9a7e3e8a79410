package cell

import (
	"math/rand"
	"slices"
	"strconv"
	"strings"
	"testing"

	"taquin/api"
	"taquin/disk"
)

// model is a cell that is written from the definitions of the chapter.
type model struct {
	disk *disk.Disk
	file int
	slot int // 0 for none
	now  state
	sure bool
}

func openModel(d *disk.Disk, f int) (*model, api.Errno) {
	all, err := d.Read(f, 0, most)
	if err != api.OK {
		return nil, err
	}
	m := &model{disk: d, file: f}
	if len(all) == 0 || all[0] == 0 {
		return m, api.OK
	}
	if len(all) < 5 || all[0] > 2 {
		return nil, api.ErrForm
	}
	m.slot = int(all[0])
	size := int(all[1]) + int(all[2])*256 + int(all[3])*256*256 + int(all[4])*256*256*256
	begin := 64
	if m.slot == 2 {
		begin = 131072
	}
	if size > 65536 || size > 0 && len(all) < begin+size {
		return nil, api.ErrForm
	}
	m.now = is("")
	if size > 0 {
		m.now = is(all[begin : begin+size])
	}
	return m, api.OK
}

func (m *model) set(s string) api.Errno {
	if len(s) > 65536 {
		return api.ErrFull
	}
	slot, begin := 1, 64
	if m.slot == 1 {
		slot, begin = 2, 131072
	}
	steps := []func() api.Errno{
		func() api.Errno {
			if m.sure || m.slot == 0 {
				return api.OK
			}
			err := m.disk.Sync(m.file)
			if err == api.OK {
				m.sure = true
			}
			return err
		},
		func() api.Errno { return m.disk.Write(m.file, begin, s) },
		func() api.Errno { return m.disk.Sync(m.file) },
		func() api.Errno {
			err := m.disk.Write(m.file, 0, head(slot, len(s)))
			if err == api.OK {
				m.slot, m.now, m.sure = slot, is(s), false
			}
			return err
		},
		func() api.Errno {
			err := m.disk.Sync(m.file)
			if err == api.OK {
				m.sure = true
			}
			return err
		},
	}
	for _, do := range steps {
		if err := do(); err != api.OK {
			return err
		}
	}
	return api.OK
}

// script is what the calls of a test are made from: bytes, and 0 after the last one.
type script struct {
	bytes []byte
	at    int
}

func (s *script) next(n int) int {
	if s.at == len(s.bytes) {
		return 0
	}
	s.at++
	return int(s.bytes[s.at-1]) % n
}

func pick[T any](s *script, l ...T) T {
	return l[s.next(len(l))]
}

func (s *script) keep() []int {
	var l []int
	for range s.next(5) {
		l = append(l, pick(s, 0, 1, 1, 2, 3, -1))
	}
	return l
}

// value returns a value that differs from all others of a script that are not empty.
func (s *script) value() string {
	return text(pick(s, 0, 1, 5, 63, 64, 65, 100, 128, 200, 200, 300, 300, 400, 500, 500, Max+1), s.at)
}

// writeRaw writes bytes into a file of a disk, which may be those of a cell.
func (s *script) writeRaw(d *disk.Disk, f int) {
	size := pick(s, 0, 0, 1, 2, 10, 100, 256, 300, Max, Max+1, 1<<24)
	begin := pick(s, slot1, slot2)
	end := min(max(pick(s, 0, 1, 3, 4, 5, 6, begin, begin+size-1, begin+size, begin+size+1), 0), most-1)
	d.Write(f, 0, head(pick(s, 0, 1, 1, 1, 2, 2, 2, 3), size))
	d.Write(f, begin, text(min(size, 300), 1))
	d.Write(f, end, "!")
	d.Truncate(f, end)
}

// pair is a cell, the model of it, and what the theorem says that may be there after a crash.
type pair struct {
	file  int
	cell  *Cell // nil, if it has to be opened
	model *model
	may   []state
}

// player makes the same calls with cells and with models of them.
type player struct {
	t     *testing.T
	in    *script
	disk  *disk.Disk
	model *disk.Disk
	pairs [2]pair
	log   []string
}

func (p *player) fail(about string) {
	p.t.Helper()
	p.t.Fatalf("%s\n%s", strings.Join(p.log, "\n"), about)
}

// same checks that two results are the same.
func (p *player) same(about string, got, want api.Errno) {
	p.t.Helper()
	p.log = append(p.log, about)
	if got != want {
		p.fail("error " + strconv.Itoa(int(got)) + " instead of " + strconv.Itoa(int(want)))
	}
}

// open opens a cell; if there is none in the file, it is emptied first.
func (p *player) open(x *pair) {
	p.t.Helper()
	about := "Open " + strconv.Itoa(x.file)
	c, err := Open(p.disk, x.file)
	m, want := openModel(p.model, x.file)
	p.same(about, err, want)
	if (c == nil) != (err != api.OK) {
		p.fail("a cell, or none")
	}
	if err == api.ErrForm && x.may == nil {
		p.disk.Truncate(x.file, 0)
		p.model.Truncate(x.file, 0)
		c, err = Open(p.disk, x.file)
		m, want = openModel(p.model, x.file)
		p.same(about+" emptied", err, want)
	}
	if err == api.ErrForm {
		p.fail("the theorem: there is no cell")
	}
	if c == nil { // the machine is down: the cell can be used until it starts
		return
	}
	if x.may == nil {
		x.may = []state{stateOf(c)}
	}
	if !slices.Contains(x.may, stateOf(c)) {
		p.fail("the theorem: " + stateOf(c).String())
	}
	x.cell, x.model = c, m
}

func (p *player) set(x *pair) {
	p.t.Helper()
	s := p.in.value()
	err := x.cell.Set(s)
	p.same("Set "+strconv.Itoa(x.file)+": "+is(s).String(), err, x.model.set(s))
	switch err {
	case api.OK:
		x.may = []state{is(s)}
	case api.ErrDown, api.ErrLost:
		x.may = append(x.may, is(s))
	}
}

// start brings the machine up: all cells have to be opened again.
func (p *player) start() {
	p.log = append(p.log, "Start")
	p.disk.Start()
	p.model.Start()
	for i := range p.pairs {
		p.pairs[i].cell = nil
		p.open(&p.pairs[i])
		if p.pairs[i].cell != nil { // what was pending is durable, or lost
			p.pairs[i].may = []state{stateOf(p.pairs[i].cell)}
		}
	}
}

// call makes the next call.
func (p *player) call() {
	p.t.Helper()
	x := &p.pairs[p.in.next(2)]
	if p.disk.Down() && p.in.next(4) > 0 {
		p.start()
		return
	}
	switch p.in.next(12) {
	default:
		p.set(x)
	case 0:
		p.open(x)
	case 1, 2:
		n := pick(p.in, 0, 1, 1, 2)
		p.log = append(p.log, "Lose "+strconv.Itoa(n))
		p.disk.Lose(n)
		p.model.Lose(n)
	case 3, 4, 5:
		n, keep := pick(p.in, 1, 2, 3, 4, 5, 6, 7, 0), p.in.keep()
		p.log = append(p.log, "Arm "+strconv.Itoa(n))
		p.disk.Arm(n, keep)
		p.model.Arm(n, keep)
	case 6:
		keep := p.in.keep()
		p.log = append(p.log, "Crash")
		p.disk.Crash(keep)
		p.model.Crash(keep)
	}
}

// parts returns those bytes of a file that short values concern.
func parts(d *disk.Disk, f int) [2]string {
	c := d.Copy()
	c.Start()
	a, _ := c.Read(f, 0, 1000)
	b, _ := c.Read(f, slot2-100, 1000)
	return [2]string{a, b}
}

// compare checks that cells and models, and their disks, are the same.
func (p *player) compare() {
	p.t.Helper()
	if p.disk.Down() != p.model.Down() {
		p.fail("down")
	}
	for _, x := range p.pairs {
		if got := stateOf(x.cell); got != x.model.now {
			p.fail(got.String() + " instead of " + x.model.now.String())
		}
		if p.disk.Size(x.file) != p.model.Size(x.file) || parts(p.disk, x.file) != parts(p.model, x.file) {
			p.fail("file " + strconv.Itoa(x.file))
		}
		for _, keep := range [][]int{nil, {1}, {1, 0}} {
			a, b := afterCrash(p.disk, keep), afterCrash(p.model, keep)
			if a.Size(x.file) != b.Size(x.file) || parts(a, x.file) != parts(b, x.file) {
				p.fail("file " + strconv.Itoa(x.file) + " after a crash")
			}
			c, err := Open(a, x.file)
			if err != api.OK || !slices.Contains(x.may, stateOf(c)) {
				p.fail("the theorem: file " + strconv.Itoa(x.file) + " after a crash")
			}
		}
	}
}

// play makes the calls of a script, and compares after each of them.
func play(t *testing.T, bytes []byte) {
	t.Helper()
	p := &player{t: t, in: &script{bytes: bytes}, disk: disk.New()}
	for i, f := range pick(p.in, [2]int{0, 1}, [2]int{0, 15}, [2]int{7, 3}) {
		p.pairs[i].file = f
		if p.in.next(2) == 0 {
			p.in.writeRaw(p.disk, f)
		}
	}
	p.model = p.disk.Copy()
	for i := range p.pairs {
		p.open(&p.pairs[i])
	}
	for p.in.at < len(bytes) {
		p.call()
		p.compare()
	}
}

// P4.1 to P4.4: the same results as those of the definitions, and what the theorem says.

func TestAgainstTheModel(t *testing.T) {
	rnd := rand.New(rand.NewSource(1))
	for range 600 {
		bytes := make([]byte, rnd.Intn(150))
		rnd.Read(bytes)
		play(t, bytes)
	}
}

func FuzzCell(f *testing.F) {
	rnd := rand.New(rand.NewSource(2))
	for range 20 {
		bytes := make([]byte, 60)
		rnd.Read(bytes)
		f.Add(bytes)
	}
	f.Fuzz(func(t *testing.T, bytes []byte) {
		play(t, bytes[:min(len(bytes), 300)])
	})
}
