package text

// Lines returns the lines of s.
func Lines(s string) []string {
	var lines []string
	begin := 0
	for i := range len(s) {
		if s[i] == '\n' {
			lines = append(lines, s[begin:i])
			begin = i + 1
		}
	}
	if begin < len(s) {
		lines = append(lines, s[begin:])
	}
	return lines
}

// Unlines returns the elements of l, an LF after each of them.
func Unlines(l []string) string {
	var out []byte
	for _, line := range l {
		out = append(out, line...)
		out = append(out, '\n')
	}
	return string(out)
}

// Fields returns the parts of s between white bytes that are not empty.
func Fields(s string) []string {
	white := func(i int) bool {
		return s[i] == ' ' || s[i] == '\t' || s[i] == '\n'
	}
	var fields []string
	begin := 0
	for i := range len(s) + 1 { // the end of s ends a field, as a white byte does
		if i < len(s) && !white(i) {
			continue
		}
		if begin < i {
			fields = append(fields, s[begin:i])
		}
		begin = i + 1
	}
	return fields
}
