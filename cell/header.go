package cell

// headerSize is the number of bytes of a header.
const headerSize = 5

// header is what the first bytes of a file tell.
type header struct {
	slot int
	size int // the length of the value
}

// parse returns the header that s consists of, and whether it is one.
func parse(s string) (header, bool) {
	if len(s) != headerSize {
		return header{}, false
	}
	h := header{slot: int(s[0])}
	for i := 1; i < headerSize; i++ {
		h.size |= int(s[i]) << (8 * (i - 1))
	}
	if h.slot != 1 && h.slot != 2 || h.size > Max {
		return header{}, false
	}
	return h, true
}

// bytes returns the bytes of a header.
func (h header) bytes() string {
	b := [headerSize]byte{byte(h.slot)}
	for i := 1; i < headerSize; i++ {
		b[i] = byte(h.size >> (8 * (i - 1)))
	}
	return string(b[:])
}
