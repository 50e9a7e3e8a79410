package text

// Kinds of parts of patterns.
const (
	itself    = iota // a byte that matches itself
	escaped          // a backslash and a byte that it matches
	anyString        // *
	anyByte          // ?
	oneOf            // a class that matches the bytes in its set
	noneOf           // a class that matches the bytes that are not in its set
)

// part is a part of a pattern.
type part struct {
	kind   int
	source string // the bytes of the pattern that are this part
	set    string // the set of a class
}

// Pattern reports whether p matches s.
func Pattern(p, s string) bool {
	last := lastClosing(p)
	// The parts that begin at first are tried at the byte from of s. After a *, they are tried at the later bytes, too. No earlier * has to take more than it did: the last one can take this in its place.
	first, from, star := 0, 0, false
matching:
	for {
		i := from
		for next := first; next < len(p); {
			q := partAt(p, next, last)
			next += len(q.source)
			switch {
			case q.kind == anyString:
				first, from, star = next, i, true
				continue matching
			case i == len(s): // later on there are fewer bytes still
				return false
			case q.matches(s[i]):
				i++
			case star:
				from++
				continue matching
			default:
				return false
			}
		}
		if i == len(s) || !star {
			return i == len(s)
		}
		from++
	}
}

// Magic reports whether a part of p is *, ? or a class.
func Magic(p string) bool {
	for q := range parts(p) {
		if q.kind != itself && q.kind != escaped {
			return true
		}
	}
	return false
}

// Plain returns p without the backslashes that escape a byte.
func Plain(p string) string {
	var out []byte
	for q := range parts(p) {
		if q.kind == escaped {
			out = append(out, q.source[1])
		} else {
			out = append(out, q.source...)
		}
	}
	return string(out)
}

// Escape returns a pattern that matches s alone.
func Escape(s string) string {
	var out []byte
	for i := range len(s) {
		switch s[i] {
		case '*', '?', '[', '\\':
			out = append(out, '\\')
		}
		out = append(out, s[i])
	}
	return string(out)
}

// parts returns the parts of p in order.
func parts(p string) func(yield func(part) bool) {
	return func(yield func(part) bool) {
		last := lastClosing(p)
		for i := 0; i < len(p); {
			q := partAt(p, i, last)
			if !yield(q) {
				return
			}
			i += len(q.source)
		}
	}
}

// lastClosing returns where the last ] of p is, or -1. Whoever knows it looks for the end of a class only if there is one.
func lastClosing(p string) int {
	i := len(p) - 1
	for i >= 0 && p[i] != ']' {
		i--
	}
	return i
}

// partAt returns the part of p that begins at i. The last ] of p is at last.
func partAt(p string, i, last int) part {
	one := p[i : i+1]
	switch p[i] {
	case '\\':
		if i+1 < len(p) {
			return part{kind: escaped, source: p[i : i+2]}
		}
	case '*':
		return part{kind: anyString, source: one}
	case '?':
		return part{kind: anyByte, source: one}
	case '[':
		if i+3 <= last && p[i+1] == '!' {
			return class(noneOf, p, i, i+2)
		}
		if i+2 <= last {
			return class(oneOf, p, i, i+1)
		}
	}
	return part{kind: itself, source: one}
}

// class returns the class that begins at i, and whose set begins at set. There is a ] after at least one byte of the set.
func class(kind int, p string, i, set int) part {
	end := set + 1
	for p[end] != ']' {
		end++
	}
	return part{kind: kind, source: p[i : end+1], set: p[set:end]}
}

// matches reports whether a part that matches single bytes matches b.
func (q part) matches(b byte) bool {
	switch q.kind {
	case anyByte:
		return true
	case oneOf, noneOf:
		return inSet(q.set, b) == (q.kind == oneOf)
	}
	return q.source[len(q.source)-1] == b
}

// inSet reports whether b is in the set of a class.
func inSet(set string, b byte) bool {
	for i := 0; i < len(set); i++ {
		low, high := set[i], set[i]
		if i+2 < len(set) && set[i+1] == '-' {
			high = set[i+2]
			i += 2
		}
		if low <= b && b <= high {
			return true
		}
	}
	return false
}
