package journal

import (
	"slices"
	"strconv"
	"strings"
	"testing"

	"taquin/api"
	"taquin/disk"
)

// pair is a journal, the model of it, and what the theorem says that may be there after a crash.
type pair struct {
	base    int
	journal *Journal // nil, if it has to be opened
	model   *model
	may     [][]string
}

// player makes the same calls with journals and with models of them, and compares what comes of it.
type player struct {
	t     *testing.T
	disk  *disk.Disk
	model *disk.Disk
	pairs []*pair
	log   []string
}

// newPlayer returns a player with journals in new files, which are not opened yet.
func newPlayer(t *testing.T, bases ...int) *player {
	p := &player{t: t, disk: disk.New(), model: disk.New()}
	for _, base := range bases {
		p.pairs = append(p.pairs, &pair{base: base, may: [][]string{nil}})
	}
	return p
}

func (p *player) note(words ...string) {
	p.log = append(p.log, strings.Join(words, " "))
}

func (p *player) fail(about string) {
	p.t.Helper()
	p.t.Fatalf("%s\n%s", strings.Join(p.log, "\n"), about)
}

// same checks that the results of a call are the same.
func (p *player) same(got, want api.Errno) {
	p.t.Helper()
	p.note("  error", strconv.Itoa(int(want)))
	if got != want {
		p.fail("error " + strconv.Itoa(int(got)))
	}
}

// ofDisk reports whether an error is one of the disk.
func ofDisk(err api.Errno) bool {
	return err == api.ErrDown || err == api.ErrLost
}

func (p *player) open(x *pair) api.Errno {
	p.t.Helper()
	p.note("Open", strconv.Itoa(x.base))
	j, err := Open(p.disk, x.base)
	m, want := openModel(p.model, x.base)
	p.same(err, want)
	if (j == nil) != (err != api.OK) {
		p.fail("a journal, or none")
	}
	if err == api.OK {
		p.among(j.All(), x.may)
		x.may = [][]string{j.All()}
	} else if !ofDisk(err) && x.may != nil {
		p.fail("the theorem: Open fails")
	}
	x.journal, x.model = j, m
	return err
}

func (p *player) append(x *pair, l ...string) api.Errno {
	p.t.Helper()
	p.note("Append", strconv.Itoa(x.base), show(l))
	err := x.journal.Append(l)
	p.done(x, err, x.model.append(l), slices.Concat(x.model.list, l))
	return err
}

func (p *player) cut(x *pair, n int) api.Errno {
	p.t.Helper()
	p.note("Cut", strconv.Itoa(x.base), "to", strconv.Itoa(n))
	would := x.model.list[:min(max(n, 0), len(x.model.list))]
	err := x.journal.Cut(n)
	p.done(x, err, x.model.cut(n), slices.Clone(would))
	return err
}

// done compares the results of an Append or a Cut, which would leave a list.
func (p *player) done(x *pair, err, want api.Errno, would []string) {
	p.t.Helper()
	p.same(err, want)
	switch {
	case err == api.OK:
		x.may = [][]string{slices.Clone(x.model.list)}
	case ofDisk(err):
		x.may = append(x.may, would)
	}
}

// put makes the files of a journal that is not opened other ones: those in which put leaves a log and values.
func (p *player) put(x *pair, log string, value ...string) {
	p.t.Helper()
	p.note("put", strconv.Itoa(x.base), show([]string{log}), show(value))
	put(p.t, p.disk, x.base, log, value...)
	put(p.t, p.model, x.base, log, value...)
	x.may = nil
}

func (p *player) lose(n int) {
	p.note("Lose", strconv.Itoa(n))
	p.disk.Lose(n)
	p.model.Lose(n)
}

func (p *player) arm(n int, keep []int) {
	p.note("Arm", strconv.Itoa(n))
	p.disk.Arm(n, keep)
	p.model.Arm(n, keep)
}

func (p *player) crash(keep []int) {
	p.note("Crash")
	p.disk.Crash(keep)
	p.model.Crash(keep)
}

// start brings the machine up: all journals have to be opened again.
func (p *player) start() {
	p.note("Start")
	p.disk.Start()
	p.model.Start()
	for _, x := range p.pairs {
		x.journal = nil
	}
}

// among checks that a list is one of those that may be there.
func (p *player) among(l []string, may [][]string) {
	p.t.Helper()
	if may != nil && !slices.ContainsFunc(may, func(m []string) bool { return slices.Equal(m, l) }) {
		p.fail("the theorem: " + show(l))
	}
}

// compare checks that journals and models, and their disks, are the same, and that a crash would leave what the theorem says.
func (p *player) compare(keeps ...[]int) {
	p.t.Helper()
	if p.disk.Down() != p.model.Down() {
		p.fail("down")
	}
	if diff := filesDiffer(p.disk, p.model); diff != "" {
		p.fail(diff)
	}
	for _, x := range p.pairs {
		if x.journal != nil {
			if diff := listDiffers(x.journal, x.model.list); diff != "" {
				p.fail(diff)
			}
		}
	}
	for _, keep := range keeps {
		a, b := afterCrash(p.disk, keep), afterCrash(p.model, keep)
		if diff := filesDiffer(a, b); diff != "" {
			p.fail(diff + " after a crash")
		}
		p.compareOpened(a)
	}
}

// compareOpened checks that the journals of a disk that crashed have lists that may be there.
func (p *player) compareOpened(d *disk.Disk) {
	p.t.Helper()
	for _, x := range p.pairs {
		if x.may == nil {
			continue
		}
		j, err := Open(d, x.base)
		if err != api.OK {
			p.fail("the theorem: Open after a crash: error " + strconv.Itoa(int(err)))
		}
		p.among(j.All(), x.may)
	}
}
