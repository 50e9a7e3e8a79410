package wire

// The greatest absolute values of ints.
const (
	mostPositive = 1<<63 - 1
	mostNegative = 1 << 63
)

// Reader reads values.
type Reader struct {
	rest   string // what has not been read; empty, if the reader has failed
	failed bool
}

// Open returns a reader of a string.
func Open(s string) *Reader {
	return &Reader{rest: s}
}

// Num reads a number.
func (r *Reader) Num() int {
	return r.size(';')
}

// Int reads an int.
func (r *Reader) Int() int {
	if !r.begins('-') {
		return r.Num()
	}
	r.rest = r.rest[1:]
	n := r.digits(mostNegative)
	if n == 0 { // -0 is no encoding
		r.fail()
	}
	r.skip(';')
	if r.failed {
		return 0
	}
	return int(-n)
}

// Text reads a string.
func (r *Reader) Text() string {
	n := r.size(':')
	if n > len(r.rest) {
		r.fail()
		return ""
	}
	s := r.rest[:n]
	r.rest = r.rest[n:]
	r.skip(',')
	if r.failed {
		return ""
	}
	return s
}

// Nums reads a list of ints.
func (r *Reader) Nums() []int {
	return items(r, r.Int)
}

// Texts reads a list of strings.
func (r *Reader) Texts() []string {
	return items(r, r.Text)
}

// Rest returns the bytes that have not been read, and moves the reader to the end.
func (r *Reader) Rest() string {
	s := r.rest
	r.rest = ""
	return s
}

// Left returns the number of bytes that have not been read.
func (r *Reader) Left() int {
	return len(r.rest)
}

// Done reports whether everything was read.
func (r *Reader) Done() bool {
	return !r.failed && r.rest == ""
}

// items reads a list, whose elements are read by one. The length that is read may be any int, so no memory is taken for it in advance, and the first element that is missing ends the list.
func items[T any](r *Reader, one func() T) []T {
	var l []T
	for range r.size('[') {
		v := one()
		if r.failed {
			return nil
		}
		l = append(l, v)
	}
	r.skip(']')
	if r.failed {
		return nil
	}
	return l
}

// size reads the digits of an int and the byte after them, or returns 0, if the reader has failed.
func (r *Reader) size(end byte) int {
	n := r.digits(mostPositive)
	r.skip(end)
	if r.failed {
		return 0
	}
	return int(n)
}

// digits reads the digits of an integer that is at most most.
func (r *Reader) digits(most uint64) uint64 {
	n, i := uint64(0), 0
	for i < len(r.rest) && isDigit(r.rest[i]) {
		d := uint64(r.rest[i] - '0')
		if i > 0 && n == 0 || n > (most-d)/10 { // a 0 in front, or more than most
			r.fail()
			return 0
		}
		n = n*10 + d
		i++
	}
	if i == 0 {
		r.fail()
	}
	r.rest = r.rest[i:]
	return n
}

func isDigit(c byte) bool {
	return '0' <= c && c <= '9'
}

// skip reads the byte c.
func (r *Reader) skip(c byte) {
	if !r.begins(c) {
		r.fail()
		return
	}
	r.rest = r.rest[1:]
}

func (r *Reader) begins(c byte) bool {
	return r.rest != "" && r.rest[0] == c
}

// fail leaves nothing to be read: as no encoding is empty, all later reads fail, too.
func (r *Reader) fail() {
	r.failed = true
	r.rest = ""
}
