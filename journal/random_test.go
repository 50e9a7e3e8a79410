package journal

import (
	"math/rand"
	"strconv"
	"testing"

	"taquin/api"
	"taquin/disk"
)

// script is what the calls of a test are made from: bytes, and 0 after the last one.
type script struct {
	bytes []byte
	at    int
}

func (s *script) next(n int) int {
	if s.at == len(s.bytes) {
		return 0
	}
	s.at++
	return int(s.bytes[s.at-1]) % n
}

func pick[T any](s *script, l ...T) T {
	return l[s.next(len(l))]
}

func (s *script) keep() []int {
	var l []int
	for range s.next(5) {
		l = append(l, pick(s, 0, 1, 1, 2, 3, -1))
	}
	return l
}

// list returns strings that differ from all others of a script, but for the short ones.
func (s *script) list() []string {
	var l []string
	for range pick(s, 1, 1, 1, 2, 2, 3, 5, 0) {
		l = append(l, text(pick(s, 0, 1, 2, 5, 10, 61, 62, 63, 64, 65, 100, 128, 200, 300), s.at))
	}
	return l
}

// log returns the form of a list, or something that is close to it.
func (s *script) log(l []string) string {
	return pick(s, "", "x", "1") + encoded(l...) + pick(s, "", "", "0:,", "1:x,", "x", "\x00", text(100, 1))
}

// value returns what is noted of a list, or something that is close to it.
func (s *script) value(l []string) string {
	number := func(n int) string {
		return pick(s, "", "", "", "", "", "0", "-", " ") + strconv.Itoa(max(n+pick(s, 0, 0, 0, 0, 1, -1, 1<<40), 0)) + pick(s, ";", ";", ";", ";", ":", "")
	}
	return number(len(encoded(l...))) + number(len(l)) + pick(s, "", "", "", "0;", "x")
}

// play makes the calls of a script, and compares after each of them.
func play(t *testing.T, bytes []byte) {
	t.Helper()
	s := &script{bytes: bytes}
	bases := pick(s, [2]int{0, 2}, [2]int{0, 14}, [2]int{7, 3})
	p := newPlayer(t, bases[:]...)
	for _, x := range p.pairs {
		if s.next(2) == 0 {
			l := s.list()
			p.put(x, s.log(l), s.value(l))
		}
	}
	for s.at < len(bytes) {
		p.call(s)
		p.compare(nil, []int{1}, []int{1, 0})
	}
}

// call makes the next call of a script.
func (p *player) call(s *script) {
	p.t.Helper()
	x := p.pairs[s.next(2)]
	if p.disk.Down() && s.next(4) > 0 {
		p.start()
	}
	if x.journal == nil {
		p.openOrEmpty(x)
		return
	}
	switch s.next(12) {
	default:
		p.append(x, s.list()...)
	case 0:
		p.open(x)
	case 9:
		p.append(x, append(s.list(), pick(s, "x", tooMuch))...)
	case 1, 2, 3:
		n := x.journal.Len()
		p.cut(x, pick(s, n-1, n/2, n-2, 0, n, n+1, -1))
	case 4, 5:
		p.lose(pick(s, 0, 1, 1, 2, 3))
	case 6, 7:
		p.arm(pick(s, 1, 2, 3, 4, 5, 6, 7, 8, 0), s.keep())
	case 8:
		p.crash(s.keep())
	}
}

// openOrEmpty opens a journal; if there is none in the files, they are emptied first.
func (p *player) openOrEmpty(x *pair) {
	p.t.Helper()
	if p.open(x) != api.ErrForm {
		return
	}
	for _, d := range []*disk.Disk{p.disk, p.model} {
		d.Arm(0, nil)
		expect(p.t, "Truncate", d.Truncate(x.base, 0), api.OK)
		expect(p.t, "Truncate", d.Truncate(x.base+1, 0), api.OK)
		d.Lose(0)
	}
	reopen(p, x)
}

// P5.1 to P5.7: the same results as those of the definitions, and what the theorems say.

func TestAgainstTheModel(t *testing.T) {
	rnd := rand.New(rand.NewSource(1))
	for range 1000 {
		bytes := make([]byte, rnd.Intn(200))
		rnd.Read(bytes)
		play(t, bytes)
	}
}

func FuzzJournal(f *testing.F) {
	rnd := rand.New(rand.NewSource(2))
	for range 20 {
		bytes := make([]byte, 100)
		rnd.Read(bytes)
		f.Add(bytes)
	}
	f.Fuzz(func(t *testing.T, bytes []byte) {
		play(t, bytes[:min(len(bytes), 400)])
	})
}
