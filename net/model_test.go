package net

import (
	"math"
	"math/rand"
	"testing"

	"taquin/api"
)

// model is a network that is written from the definitions of the chapter: the packets in flight, and which ends are in the split.
type model struct {
	flight []api.Packet
	inside map[int]bool
}

func (m *model) hear(a, b int) bool {
	return min(a, b) >= 0 && max(a, b) <= 15 && m.inside[a] == m.inside[b]
}

func (m *model) send(p api.Packet) api.Errno {
	switch {
	case min(p.From, p.To) < 0 || max(p.From, p.To) > 15 || p.From == p.To:
		return api.ErrArg
	case !m.hear(p.From, p.To):
		return api.ErrLost
	case len(m.flight) == 500:
		return api.ErrFull
	}
	m.flight = joined(m.flight, p)
	return api.OK
}

func (m *model) drop(i int) api.Errno {
	if i < 0 || i >= len(m.flight) {
		return api.ErrNone
	}
	m.flight = without(m.flight, i)
	return api.OK
}

func (m *model) deliver(i int) (api.Packet, api.Errno) {
	if i < 0 || i >= len(m.flight) {
		return api.Packet{}, api.ErrNone
	}
	p := m.flight[i]
	m.flight = without(m.flight, i)
	if !m.hear(p.From, p.To) {
		return api.Packet{}, api.ErrLost
	}
	return p, api.OK
}

func (m *model) double(i int) api.Errno {
	switch {
	case i < 0 || i >= len(m.flight):
		return api.ErrNone
	case len(m.flight) == 500:
		return api.ErrFull
	}
	m.flight = joined(m.flight, m.flight[i])
	return api.OK
}

func (m *model) split(mask int) {
	m.inside = map[int]bool{}
	low := (mask%65536 + 65536) % 65536
	for e, value := 0, 1; e < 16; e, value = e+1, 2*value {
		m.inside[e] = low/value%2 == 1
	}
}

// script is what the calls of a test are made from: bytes, and 0 after the last one.
type script struct {
	bytes []byte
	at    int
}

func (s *script) next(n int) int {
	if s.at == len(s.bytes) {
		return 0
	}
	s.at++
	return int(s.bytes[s.at-1]) % n
}

func pick[T any](s *script, l ...T) T {
	return l[s.next(len(l))]
}

func (s *script) end() int {
	return pick(s, 0, 1, 2, 3, 0, 1, 2, 3, 7, 8, 14, 15, -1, 16, s.next(16), pick(s, noEnds...))
}

func (s *script) mask() int {
	return pick(s, 0, 1, 2, 3, 5, 0x5555, 0x8000, 65535, 65536, 65537, -1, -2, math.MinInt+1, s.next(256)+256*s.next(256), -s.next(256)-256*s.next(256))
}

// player makes the calls of a script on a network and on its model, and keeps what the theorem speaks of: how often each packet was sent, doubled and delivered.
type player struct {
	t                        *testing.T
	net                      *Net
	model                    *model
	sent, doubled, delivered map[api.Packet]int
}

func newPlayer(t *testing.T) *player {
	return &player{t, New(), &model{}, map[api.Packet]int{}, map[api.Packet]int{}, map[api.Packet]int{}}
}

func (p *player) send(from, to int, body string) {
	p.t.Helper()
	x := packet(from, to, body)
	heard := p.net.Hear(from, to)
	err := p.net.Send(from, to, body)
	expect(p.t, "Send", err, p.model.send(x))
	if err == api.OK {
		p.sent[x]++
		if !heard {
			p.t.Error("sent, but not heard", x)
		}
	}
}

func (p *player) deliver(i int) {
	p.t.Helper()
	got, err := p.net.Deliver(i)
	want, wanted := p.model.deliver(i)
	if got != want || err != wanted {
		p.t.Errorf("Deliver(%d): %v, %d instead of %v, %d", i, got, err, want, wanted)
	}
	if err == api.OK {
		p.delivered[got]++
		p.checkDelivered(got)
	}
}

// checkDelivered checks what the theorem says of a packet that was just delivered.
func (p *player) checkDelivered(x api.Packet) {
	p.t.Helper()
	if p.sent[x] == 0 {
		p.t.Error("delivered, but never sent", x)
	}
	if !p.net.Hear(x.From, x.To) {
		p.t.Error("delivered, but not heard", x)
	}
	if p.delivered[x] > p.sent[x]+p.doubled[x] {
		p.t.Error("delivered too often", x)
	}
}

func (p *player) double(i int) {
	p.t.Helper()
	l := p.net.List()
	err := p.net.Double(i)
	expect(p.t, "Double", err, p.model.double(i))
	if err == api.OK {
		p.doubled[l[i]]++
	}
}

func (p *player) drop(i int) {
	p.t.Helper()
	expect(p.t, "Drop", p.net.Drop(i), p.model.drop(i))
}

func (p *player) split(mask int) {
	p.net.Split(mask)
	p.model.split(mask)
}

func (p *player) compare() {
	p.t.Helper()
	expectFlight(p.t, "compared", p.net, p.model.flight...)
	for a := -1; a <= 16; a++ {
		for b := -1; b <= 16; b++ {
			if p.net.Hear(a, b) != p.model.hear(a, b) {
				p.t.Fatal("Hear", a, b, p.net.Hear(a, b))
			}
		}
	}
}

// call makes the next call of a script.
func (p *player) call(s *script, doubles bool) {
	p.t.Helper()
	n := p.net.Count()
	index := pick(s, 0, n-1, n/2, n-2, 1, -1, n, n+1, math.MinInt, math.MaxInt, s.next(max(n, 1)), s.next(max(n, 1)))
	switch s.next(12) {
	default:
		p.send(s.end(), s.end(), pick(s, "", "a", "b", "a\x00", "\n"))
	case 1, 2:
		p.deliver(index)
	case 3:
		p.drop(index)
	case 4, 5:
		if doubles {
			p.double(index)
		}
	case 6:
		p.split(s.mask())
	case 7:
		p.net.Heal()
		p.model.split(0)
	case 8:
		p.net = p.net.Copy()
	}
}

// play makes the calls of a script, and compares after each of them.
func play(t *testing.T, bytes []byte) {
	t.Helper()
	s := &script{bytes: bytes}
	p := newPlayer(t)
	doubles := s.next(3) > 0 // without Double, the theorem says more
	for i := range pick(s, 0, 0, 0, 0, 1, 10, 497, 499, 500) {
		p.send(i%16, (i+5)%16, pick(s, "a", "b", ""))
	}
	for s.at < len(bytes) {
		p.call(s, doubles)
		p.compare()
	}
}

// P6.1 to P6.5: the same results as those of the definitions, and what the theorem says.

func TestAgainstTheModel(t *testing.T) {
	rnd := rand.New(rand.NewSource(1))
	for range 1500 {
		bytes := make([]byte, rnd.Intn(400))
		rnd.Read(bytes)
		play(t, bytes)
		if t.Failed() {
			t.Fatal(bytes)
		}
	}
}

// TestNothingIsDeliveredMoreOftenThanItWasSent sends equal packets, and delivers until nothing is in flight: each of them comes as often as it was sent, and twice as often, if each is doubled.
func TestNothingIsDeliveredMoreOftenThanItWasSent(t *testing.T) {
	for _, times := range []int{1, 2} {
		p := newPlayer(t)
		for i := range 60 {
			p.send(i%3, 3+i%2, pick(&script{bytes: []byte{byte(i)}}, "a", "b"))
		}
		if times == 2 {
			for i := range 60 {
				p.double(i)
			}
		}
		for p.net.Count() > 0 {
			p.deliver(p.net.Count() / 2)
		}
		for x, n := range p.sent {
			if p.delivered[x] != times*n {
				t.Error(x, n, p.delivered[x])
			}
		}
		if p.net.Send(0, 3, "a") != api.OK || p.net.Count() != 1 {
			t.Error("what was delivered is still in flight")
		}
	}
}

func FuzzNet(f *testing.F) {
	rnd := rand.New(rand.NewSource(2))
	for range 20 {
		bytes := make([]byte, 100)
		rnd.Read(bytes)
		f.Add(bytes)
	}
	f.Fuzz(func(t *testing.T, bytes []byte) {
		play(t, bytes[:min(len(bytes), 600)])
	})
}
