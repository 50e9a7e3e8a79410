// Package wire is layer 1, a canonical encoding as text: see shared/doc/01-wire.md.
package wire

// Num returns the encoding of an int as a number.
func Num(n int) string {
	if n < 0 {
		return ""
	}
	return digits(uint64(n)) + ";"
}

// Int returns the encoding of an int.
func Int(n int) string {
	if n < 0 {
		// The absolute value of the least int is no int, but it is an uint64.
		return "-" + digits(-uint64(n)) + ";"
	}
	return Num(n)
}

// Text returns the encoding of a string.
func Text(s string) string {
	return count(len(s)) + ":" + s + ","
}

// Nums returns the encoding of a list of ints.
func Nums(l []int) string {
	return list(l, Int)
}

// Texts returns the encoding of a list of strings.
func Texts(l []string) string {
	return list(l, Text)
}

// list returns the encoding of a list, whose elements are encoded by one.
func list[T any](l []T, one func(T) string) string {
	out := []byte(count(len(l)) + "[")
	for _, v := range l {
		out = append(out, one(v)...)
	}
	return string(append(out, ']'))
}

// count returns the digits of a length.
func count(n int) string {
	return digits(uint64(n))
}

// digits returns the decimal digits of n, without zeros in front.
func digits(n uint64) string {
	var buf [20]byte // the greatest uint64 has 20 digits
	i := len(buf)
	for {
		i--
		buf[i] = byte('0' + n%10)
		n /= 10
		if n == 0 {
			return string(buf[i:])
		}
	}
}
