package journal

import (
	"strings"

	"taquin/api"
	"taquin/cell"
	"taquin/wire"
)

// form returns the form of a list, or false, if it has more than most bytes. It stops where it gets too long, as a list may have a long string many times.
func form(l []string, most int) (string, bool) {
	var b strings.Builder
	for _, s := range l {
		if len(s) > most {
			return "", false
		}
		b.WriteString(wire.Text(s))
		if b.Len() > most {
			return "", false
		}
	}
	return b.String(), true
}

// sizeOf returns the length of the form of a list.
func sizeOf(l []string) int {
	n := 0
	for _, s := range l {
		n += len(wire.Text(s))
	}
	return n
}

// parse returns the list of count strings whose form is s, and whether there is one.
func parse(s string, count int) ([]string, bool) {
	var l []string
	r := wire.Open(s)
reading:
	for {
		switch {
		case r.Left() == 0: // everything was read, or the reader has failed
			break reading
		case len(l) == count: // there are more strings
			return nil, false
		}
		l = append(l, r.Text())
	}
	return l, r.Done() && len(l) == count
}

// note sets a cell to the length of the form of a list and the number of its strings.
func note(c *cell.Cell, size, count int) api.Errno {
	return c.Set(wire.Int(size) + wire.Int(count))
}

// noted returns these numbers, and whether the cell tells them.
func noted(c *cell.Cell) (size, count int, ok bool) {
	s, has := c.Get()
	if !has {
		return 0, 0, true
	}
	r := wire.Open(s)
	size, count = r.Num(), r.Num()
	return size, count, r.Done()
}
