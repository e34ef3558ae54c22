// Package chars classifies, compares and fits characters (layer 1). See shared/doc/01-chars.md.
package chars

import "columnseven/api"

const space = ' '

// text is a list of bytes, whether it can be changed or not.
type text interface {
	~string | ~[]byte
}

// first returns the index of the first byte that is wanted, or -1.
func first[T text](s T, wanted func(byte) bool) int {
	for i := range len(s) {
		if wanted(s[i]) {
			return i
		}
	}
	return -1
}

// last returns the index of the last byte that is wanted, or -1.
func last[T text](s T, wanted func(byte) bool) int {
	for i := len(s) - 1; i >= 0; i-- {
		if wanted(s[i]) {
			return i
		}
	}
	return -1
}

func isDigit(c byte) bool { return '0' <= c && c <= '9' }

func isCapital(c byte) bool { return 'A' <= c && c <= 'Z' }

// IsDigits reports whether a text consists of one digit or more.
func IsDigits(s string) bool {
	return s != "" && first(s, func(c byte) bool { return !isDigit(c) }) < 0
}

// IsName reports whether a text is a name.
func IsName(s string) bool {
	if s == "" || len(s) > api.MaxName || s[0] == '-' || s[len(s)-1] == '-' {
		return false
	}
	strange := func(c byte) bool { return !isCapital(c) && !isDigit(c) && c != '-' }
	return first(s, strange) < 0 && first(s, isCapital) >= 0
}

// Printable reports whether all bytes of a text are printable.
func Printable(s string) bool {
	return first(s, func(c byte) bool { return c < 32 || c > 126 }) < 0
}

// Fold returns a text with capital letters.
func Fold(s string) string {
	// Not strings.ToUpper, which also changes letters beyond z and bytes that are not UTF-8.
	b := []byte(s)
	for i, c := range b {
		if 'a' <= c && c <= 'z' {
			b[i] = c - 'a' + 'A'
		}
	}
	return string(b)
}

// Compare compares two texts, the shorter one padded with spaces.
func Compare(a, b []byte) int {
	padded := func(s []byte, i int) byte {
		if i < len(s) {
			return s[i]
		}
		return space
	}
	for i := range max(len(a), len(b)) {
		x, y := padded(a, i), padded(b, i)
		if x < y {
			return -1
		}
		if x > y {
			return 1
		}
	}
	return 0
}

// checkSize tells why a text of n bytes cannot be made.
func checkSize(n int) api.Errno {
	if n < 0 {
		return api.ErrArg
	}
	if n > api.MaxStore {
		return api.ErrLimit
	}
	return api.OK
}

// Fill returns n bytes that repeat a text.
func Fill(b []byte, n int) ([]byte, api.Errno) {
	if e := checkSize(n); e != api.OK {
		return nil, e
	}
	if len(b) == 0 && n != 0 {
		return nil, api.ErrWidth
	}
	out := make([]byte, n)
	for i := range n {
		out[i] = b[i%len(b)]
	}
	return out, api.OK
}

// Fit returns a text with n bytes: cut off, or padded with spaces, on the right, or on the left.
func Fit(b []byte, n int, left bool) ([]byte, api.Errno) {
	if e := checkSize(n); e != api.OK {
		return nil, e
	}
	shift := 0 // from an index of the result to one of the text
	if left {
		shift = len(b) - n
	}
	out := make([]byte, n)
	for i := range n {
		out[i] = space
		if at := i + shift; 0 <= at && at < len(b) {
			out[i] = b[at]
		}
	}
	return out, api.OK
}

// Trim returns a text without the spaces at its end.
func Trim(b []byte) []byte {
	end := last(b, func(c byte) bool { return c != space }) + 1
	out := make([]byte, end)
	copy(out, b)
	return out
}
