package journal

import (
	"slices"
	"strconv"
	"strings"

	"taquin/api"
	"taquin/cell"
	"taquin/disk"
)

// model is a journal that is written from the definitions of the chapter.
type model struct {
	disk   *disk.Disk
	base   int
	cell   *cell.Cell
	list   []string
	failed bool
}

func openModel(d *disk.Disk, base int) (*model, api.Errno) {
	if base < 0 || base > 14 {
		return nil, api.ErrArg
	}
	if err := d.Sync(base); err != api.OK {
		return nil, err
	}
	if err := d.Sync(base + 1); err != api.OK {
		return nil, err
	}
	c, err := cell.Open(d, base+1)
	if err != api.OK {
		return nil, err
	}
	m := &model{disk: d, base: base, cell: c}
	value, ok := c.Get()
	if !ok {
		return m, api.OK
	}
	size, count, ok := twoNumbers(value)
	if !ok {
		return nil, api.ErrForm
	}
	s, err := d.Read(base, 0, size)
	if err != api.OK {
		return nil, err
	}
	m.list, ok = decoded(s)
	if !ok || len(s) != size || len(m.list) != count {
		return nil, api.ErrForm
	}
	return m, api.OK
}

// number returns the number whose digits are given.
func number(digits string) (int, bool) {
	n, err := strconv.Atoi(digits)
	return n, err == nil && n >= 0 && strconv.Itoa(n) == digits
}

func twoNumbers(s string) (int, int, bool) {
	parts := strings.Split(s, ";")
	if len(parts) != 3 || parts[2] != "" {
		return 0, 0, false
	}
	a, first := number(parts[0])
	b, second := number(parts[1])
	return a, b, first && second
}

// decoded returns the list whose form is given.
func decoded(s string) ([]string, bool) {
	var l []string
	for s != "" {
		digits, rest, _ := strings.Cut(s, ":")
		n, ok := number(digits)
		if !ok || n >= len(rest) || rest[n] != ',' {
			return nil, false
		}
		l = append(l, rest[:n])
		s = rest[n+1:]
	}
	return l, true
}

// try makes calls up to the first one that returns an error.
func (m *model) try(calls ...func() api.Errno) api.Errno {
	for _, call := range calls {
		if err := call(); err != api.OK {
			m.failed = true
			return err
		}
	}
	return api.OK
}

func (m *model) append(l []string) api.Errno {
	longer := slices.Concat(m.list, l)
	if m.failed {
		return api.ErrState
	}
	if len(l) == 0 {
		return api.OK
	}
	if len(encoded(longer...)) > 1048576 {
		return api.ErrFull
	}
	err := m.try(
		func() api.Errno { return m.disk.Write(m.base, len(encoded(m.list...)), encoded(l...)) },
		func() api.Errno { return m.disk.Sync(m.base) },
		func() api.Errno { return m.cell.Set(numbers(longer...)) },
	)
	if err == api.OK {
		m.list = longer
	}
	return err
}

func (m *model) cut(n int) api.Errno {
	if m.failed {
		return api.ErrState
	}
	if n < 0 || n > len(m.list) {
		return api.ErrArg
	}
	if n == len(m.list) {
		return api.OK
	}
	err := m.try(func() api.Errno { return m.cell.Set(numbers(m.list[:n]...)) })
	if err == api.OK {
		m.list = m.list[:n]
	}
	return err
}
