package text

const hexadecimals = "0123456789abcdef"

// Quote returns the quoted string that stands for s.
func Quote(s string) string {
	out := []byte{'"'}
	for i := range len(s) {
		out = appendQuoted(out, s[i])
	}
	return string(append(out, '"'))
}

// appendQuoted appends what stands for the byte b in a quoted string.
func appendQuoted(out []byte, b byte) []byte {
	switch {
	case b == '"' || b == '\\':
		return append(out, '\\', b)
	case b == '\n':
		return append(out, '\\', 'n')
	case b < 32 || b > 126:
		return append(out, '\\', 'x', hexadecimals[b>>4], hexadecimals[b&15])
	}
	return append(out, b)
}

// Unquote returns the string for which s stands.
func Unquote(s string) (string, bool) {
	var out []byte
	for i := 1; i < len(s)-1; {
		b, size := quotedByte(s[i : len(s)-1])
		out = append(out, b)
		i += size
	}
	// The loop takes any bytes; but only a quoted string, in the one way to write it, is what Quote returns for its string.
	text := string(out)
	if Quote(text) != s {
		return "", false
	}
	return text, true
}

// quotedByte returns the byte for which the beginning of s stands, if it stands for one, and how many bytes of s this takes. There is at least one byte in s.
func quotedByte(s string) (byte, int) {
	switch {
	case s[0] != '\\' || len(s) == 1:
		return s[0], 1
	case s[1] == 'n':
		return '\n', 2
	case s[1] == 'x' && len(s) >= 4:
		return digit(s[2])<<4 | digit(s[3]), 4
	}
	return s[1], 2
}

// digit returns the value of a hexadecimal digit in lower case, or 0 for any other byte.
func digit(b byte) byte {
	for i := range len(hexadecimals) {
		if hexadecimals[i] == b {
			return byte(i)
		}
	}
	return 0
}
