package disk

import (
	"math"
	"math/rand"
	"slices"
	"strconv"
	"strings"
	"testing"

	"taquin/api"
)

// model is a disk that is written from the definitions of the chapter, without regard to how long it takes.
type model struct {
	files, durable [16]string
	pending        [][2]int
	down           bool
	lost, calls    int
	keep           []int
}

// putInto puts bytes into a string at an offset.
func putInto(s string, at int, bytes string) string {
	if bytes == "" {
		return s
	}
	for len(s) < at {
		s += "\x00"
	}
	for i := range len(bytes) {
		if at+i < len(s) {
			s = s[:at+i] + bytes[i:i+1] + s[at+i+1:]
		} else {
			s += bytes[i : i+1]
		}
	}
	return s
}

func (m *model) copy() *model {
	c := *m
	c.pending = slices.Clone(m.pending)
	c.keep = slices.Clone(m.keep)
	return &c
}

func (m *model) noFile(f int) bool {
	return f < 0 || f > 15
}

func (m *model) clear(f int) {
	var left [][2]int
	for _, p := range m.pending {
		if p[0] != f {
			left = append(left, p)
		}
	}
	m.pending = left
}

// isLast reports whether a crash is scheduled for the call that is made.
func (m *model) isLast() bool {
	if m.calls == 0 {
		return false
	}
	m.calls--
	return m.calls == 0
}

func (m *model) read(f, at, size int) (string, api.Errno) {
	if m.down {
		return "", api.ErrDown
	}
	if m.noFile(f) || at < 0 || size < 0 {
		return "", api.ErrArg
	}
	s := ""
	for i := at; i < len(m.files[f]) && len(s) < size; i++ {
		s += m.files[f][i : i+1]
	}
	return s, api.OK
}

func (m *model) write(f, at int, s string) api.Errno {
	if m.down {
		return api.ErrDown
	}
	err := api.OK
	if m.noFile(f) || at < 0 {
		err = api.ErrArg
	} else if uint64(at)+uint64(len(s)) > 1<<24 {
		err = api.ErrFull
	} else {
		m.files[f] = putInto(m.files[f], at, s)
		for i := range len(s) {
			if p := [2]int{f, (at + i) / 64}; !slices.Contains(m.pending, p) {
				m.pending = append(m.pending, p)
			}
		}
	}
	if m.isLast() {
		m.crash(m.keep)
		return api.ErrDown
	}
	return err
}

func (m *model) sync(f int) api.Errno {
	if m.down {
		return api.ErrDown
	}
	if m.isLast() {
		m.crash(m.keep)
		return api.ErrDown
	}
	if m.noFile(f) {
		return api.ErrArg
	}
	if m.lost > 0 {
		m.lost--
		return api.ErrLost
	}
	m.durable[f] = m.files[f]
	m.clear(f)
	return api.OK
}

func (m *model) truncate(f, size int) api.Errno {
	if m.down {
		return api.ErrDown
	}
	if m.isLast() {
		m.crash(m.keep)
		return api.ErrDown
	}
	if m.noFile(f) || size < 0 || size > len(m.files[f]) {
		return api.ErrArg
	}
	m.files[f] = m.files[f][:size]
	m.durable[f] = m.files[f]
	m.clear(f)
	return api.OK
}

func (m *model) lose(n int) {
	m.lost = n
	if n < 0 {
		m.lost = 0
	}
}

func (m *model) arm(n int, keep []int) {
	m.calls, m.keep = 0, slices.Clone(keep)
	if n >= 1 {
		m.calls = n
	}
}

func (m *model) crash(keep []int) {
	if m.down {
		return
	}
	for i, p := range m.pending {
		if len(keep) == 0 || keep[i%len(keep)]%2 == 0 {
			continue
		}
		begin, end := 64*p[1], 64*p[1]+64
		f := m.files[p[0]]
		m.durable[p[0]] = putInto(m.durable[p[0]], begin, f[min(begin, len(f)):min(end, len(f))])
	}
	m.files = m.durable
	m.pending, m.calls, m.down = nil, 0, true
}

// script is what the calls of a test are made from: bytes, and 0 after the last one.
type script struct {
	bytes []byte
	at    int
}

func (s *script) next(n int) int {
	if s.at == len(s.bytes) {
		return 0
	}
	s.at++
	return int(s.bytes[s.at-1]) % n
}

func pick[T any](s *script, l ...T) T {
	return l[s.next(len(l))]
}

func (s *script) file() int {
	return pick(s, 0, 0, 0, 0, 1, 1, 1, 15, 15, -1, 16)
}

func (s *script) place() int {
	return pick(s, 0, 1, 2, 3, 5, 10, 31, 62, 63, 64, 65, 66, 100, 126, 127, 128, 129, 130, 191, 192, 193, 200, 255, 256, 300, 400, -1, 1<<24, 1<<24+1, math.MaxInt, math.MinInt)
}

func (s *script) text() string {
	n := pick(s, 0, 1, 2, 3, 3, 5, 20, 63, 64, 65, 66, 128, 200)
	if s.next(4) == 0 {
		return zeros(n)
	}
	b := []byte(letters(n))
	for i := range b {
		b[i] += byte(s.at % 100) // so that each call writes other bytes
	}
	return string(b)
}

func (s *script) keep() []int {
	var l []int
	for range s.next(5) {
		l = append(l, pick(s, 0, 1, 1, 2, 3, -1, -2))
	}
	return l
}

// both makes the next call of a script on a disk and on a model, and returns what it is and the results.
func both(s *script, d *Disk, m *model) (string, []any, []any) {
	f, at := s.file(), s.place()
	about := strconv.Itoa(f) + ", " + strconv.Itoa(at)
	switch kind := s.next(20); kind {
	default:
		text := s.text()
		return "Write " + about + ", " + strconv.Quote(text), []any{d.Write(f, at, text)}, []any{m.write(f, at, text)}
	case 0, 1:
		return "Sync " + about, []any{d.Sync(f)}, []any{m.sync(f)}
	case 2, 3:
		return "Truncate " + about, []any{d.Truncate(f, at)}, []any{m.truncate(f, at)}
	case 4, 5:
		size := s.place()
		got, err := d.Read(f, at, size)
		want, wantErr := m.read(f, at, size)
		return "Read " + about + ", " + strconv.Itoa(size), []any{got, err}, []any{want, wantErr}
	case 6:
		n := pick(s, 0, 1, 1, 2, 3, -1)
		d.Lose(n)
		m.lose(n)
		return "Lose " + strconv.Itoa(n), nil, nil
	case 7, 8:
		n, keep := pick(s, 0, 1, 1, 2, 3, 4, -1), s.keep()
		d.Arm(n, keep)
		m.arm(n, keep)
		return "Arm " + strconv.Itoa(n), nil, nil
	case 9:
		keep := s.keep()
		d.Crash(keep)
		m.crash(keep)
		return "Crash", nil, nil
	case 10, 11, 12:
		d.Start()
		m.down = false
		return "Start", nil, nil
	}
}

// compare reports how a disk differs from a model: in its sizes, in whether it is down, and in its files, now or after a crash.
func compare(d *Disk, m *model) string {
	if d.Down() != m.down {
		return "down"
	}
	for f := -1; f <= 16; f++ {
		want := 0
		if !m.noFile(f) {
			want = len(m.files[f])
		}
		if d.Size(f) != want {
			return "size of " + strconv.Itoa(f)
		}
	}
	for _, keep := range [][]int{nil, {1}, {1, 0}, {0, 1, 1}} {
		c, n := d.Copy(), m.copy()
		c.Start()
		n.down = false
		for range 2 {
			for f := range 16 {
				if got, err := c.Read(f, 0, most); got != n.files[f] || err != api.OK {
					return "file " + strconv.Itoa(f) + ": " + strconv.Quote(got) + " instead of " + strconv.Quote(n.files[f])
				}
			}
			c.Crash(keep)
			n.crash(keep)
			c.Start()
			n.down = false
		}
	}
	return ""
}

// run makes the calls of a script, and compares after each of them. From time to time it goes on with a copy, or keeps one to compare it at the end.
func run(t *testing.T, bytes []byte) {
	t.Helper()
	s := &script{bytes: bytes}
	d, m := New(), &model{}
	kept, keptModel := d.Copy(), m.copy()
	log := []string{}
	for s.at < len(s.bytes) {
		about, got, want := both(s, d, m)
		log = append(log, about)
		diff := compare(d, m)
		if diff != "" || !slices.Equal(got, want) {
			t.Fatalf("%s\n%v instead of %v; %s", strings.Join(log, "\n"), got, want, diff)
		}
		switch s.next(10) {
		case 0:
			d = d.Copy()
		case 1:
			kept, keptModel = d.Copy(), m.copy()
		case 2:
			if diff := compare(kept, keptModel); diff != "" {
				t.Fatalf("%s\na copy: %s", strings.Join(log, "\n"), diff)
			}
			d, m = kept, keptModel
			kept, keptModel = d.Copy(), m.copy()
			log = append(log, "back to a copy")
		}
	}
}

// P3.1 to P3.4: the same results as those of the definitions.

func TestAgainstTheModel(t *testing.T) {
	rnd := rand.New(rand.NewSource(1))
	for range 1500 {
		bytes := make([]byte, rnd.Intn(300))
		rnd.Read(bytes)
		run(t, bytes)
	}
}

func FuzzDisk(f *testing.F) {
	rnd := rand.New(rand.NewSource(2))
	for range 20 {
		bytes := make([]byte, 100)
		rnd.Read(bytes)
		f.Add(bytes)
	}
	f.Fuzz(func(t *testing.T, bytes []byte) {
		run(t, bytes[:min(len(bytes), 500)])
	})
}

// P3.5 and P3.6: what a crash can leave.

// before is what is known of a disk before a crash.
type before struct {
	disk          *Disk
	file, durable [2]string // of the files 0 and 1
	pending       [][2]int
	written       [2][300]bool // which bytes were written since they were durable
}

// scene returns a disk of which some sectors of the files 0 and 1 are pending.
func scene(t *testing.T, rnd *rand.Rand) before {
	t.Helper()
	b := before{disk: New()}
	for f := range 2 {
		write(t, b.disk, f, 0, strings.Repeat("d", rnd.Intn(250)))
		sync(t, b.disk, f)
		b.durable[f], _ = b.disk.Read(f, 0, most)
	}
	for range 1 + rnd.Intn(4) {
		f, at := rnd.Intn(2), rnd.Intn(270)
		s := strings.Repeat(string(rune('A'+rnd.Intn(20))), 1+rnd.Intn(30))
		write(t, b.disk, f, at, s)
		for i := range s {
			b.written[f][at+i] = true
			if p := [2]int{f, (at + i) / 64}; !slices.Contains(b.pending, p) {
				b.pending = append(b.pending, p)
			}
		}
	}
	for f := range 2 {
		b.file[f], _ = b.disk.Read(f, 0, most)
	}
	return b
}

// byteAt returns the byte of s at i, or 0 after its end.
func byteAt(s string, i int) byte {
	if i < len(s) {
		return s[i]
	}
	return 0
}

// checkAfter checks what a file of a scene consists of after a crash that the sectors with a 1 in keep have survived.
func (b *before) checkAfter(t *testing.T, f int, keep []int, after string) {
	t.Helper()
	if len(after) < len(b.durable[f]) || len(after) > len(b.file[f]) {
		t.Errorf("%v: %d bytes, not from %d to %d", keep, len(after), len(b.durable[f]), len(b.file[f]))
	}
	for i := range len(after) {
		index := slices.Index(b.pending, [2]int{f, i / 64})
		want := byteAt(b.durable[f], i)
		if index >= 0 && keep[index] == 1 {
			want = b.file[f][i]
		}
		if after[i] != want {
			t.Errorf("%v: byte %d is %q instead of %q", keep, i, after[i], want)
		}
		if i < len(b.durable[f]) && !b.written[f][i] && after[i] != 'd' {
			t.Errorf("%v: byte %d was not written, and is %q", keep, i, after[i])
		}
	}
	for i, p := range b.pending {
		if end := min(64*p[1]+64, len(b.file[f])); p[0] == f && keep[i] == 1 && len(after) < end {
			t.Errorf("%v: %d bytes, but the sector up to %d survives", keep, len(after), end)
		}
	}
}

func TestEverySetOfSectorsCanSurvive(t *testing.T) {
	rnd := rand.New(rand.NewSource(3))
	for range 100 {
		b := scene(t, rnd)
		for set := range 1 << len(b.pending) {
			keep := make([]int, len(b.pending))
			for i := range keep {
				keep[i] = set >> i & 1
			}
			d := b.disk.Copy()
			if set%2 == 0 {
				d.Crash(keep)
			} else {
				d.Arm(1, keep)
				expect(t, "Sync", d.Sync(0), api.ErrDown)
			}
			d.Start()
			for f := range 2 {
				after, _ := d.Read(f, 0, most)
				b.checkAfter(t, f, keep, after)
			}
		}
		if t.Failed() {
			t.FailNow()
		}
	}
}

func TestTruncateIsAtomic(t *testing.T) {
	rnd := rand.New(rand.NewSource(4))
	for range 50 {
		b := scene(t, rnd)
		n := rnd.Intn(len(b.file[0]) + 1)
		for _, keep := range keeps {
			d := b.disk.Copy()
			expect(t, "Truncate", d.Truncate(0, n), api.OK)
			expectAfterCrash(t, d, keep, 0, b.file[0][:n])
			// With the crash in the call, it has no effect at all.
			c, d := b.disk.Copy(), b.disk.Copy()
			c.Crash(keep)
			d.Arm(1, keep)
			expect(t, "Truncate", d.Truncate(0, n), api.ErrDown)
			checkUnchanged(t, "Truncate", d, c)
		}
	}
}

func TestWhatWasSyncedIsNotTouched(t *testing.T) {
	rnd := rand.New(rand.NewSource(5))
	for range 50 {
		b := scene(t, rnd)
		sync(t, b.disk, 0)
		for range 3 { // crashes, with writes to another file in between
			b.disk.Lose(1)
			for f := range 5 {
				write(t, b.disk, 1+f, rnd.Intn(300), letters(rnd.Intn(300)))
			}
			expect(t, "Sync", b.disk.Sync(0), api.ErrLost)
			for _, keep := range keeps {
				expectAfterCrash(t, b.disk, keep, 0, b.file[0])
			}
			b.disk.Crash([]int{rnd.Intn(2), rnd.Intn(2), rnd.Intn(2)})
			b.disk.Start()
			expectFile(t, b.disk, 0, b.file[0])
		}
	}
}

// P4 of the document: the results depend on the calls alone.

func TestCallsAreRepeatable(t *testing.T) {
	rnd := rand.New(rand.NewSource(6))
	for range 50 {
		bytes := make([]byte, 300)
		rnd.Read(bytes)
		var disks [3]*Disk
		for i := range disks {
			disks[i] = New()
			s := &script{bytes: bytes}
			for s.at < len(bytes) {
				both(s, disks[i], &model{})
			}
		}
		for _, d := range disks[1:] {
			d.Start()
			disks[0].Start()
			checkUnchanged(t, "the same calls", d, disks[0])
		}
	}
}
