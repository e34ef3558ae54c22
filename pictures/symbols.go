package pictures

import (
	"strconv"
	"strings"
)

const (
	maxNumber = 5 // digits of a number in parentheses
	shorter   = 5 // symbols in a row from which on a number is shorter
)

// symbols are the symbols that may stand in a picture, in any order.
var symbols = [...]byte{'A', 'X', '9', 'S', 'V', 'P', 'Z', '*', '+', '-', '.', ',', '$', 'B', '0', '/', 'C', 'R', 'D'}

func isSymbol(c byte) bool {
	for _, s := range symbols {
		if s == c {
			return true
		}
	}
	return false
}

// row is a symbol that stands several times in a row.
type row struct {
	symbol string
	times  int
}

// short returns the shortest text for a row.
func (r row) short() string {
	if r.times < shorter {
		return strings.Repeat(r.symbol, r.times)
	}
	return r.symbol + "(" + strconv.Itoa(r.times) + ")"
}

// divide returns the rows of a picture, and whether it consists of rows, and has one.
func divide(s string) ([]row, bool) {
	var l []row
	for s != "" {
		if !isSymbol(s[0]) {
			return nil, false
		}
		times, rest, ok := repetition(s[1:])
		if !ok {
			return nil, false
		}
		l = append(l, row{s[:1], times})
		s = rest
	}
	return l, len(l) > 0
}

// repetition returns the number in parentheses with which a text begins, or 1 if there are none, and what follows.
func repetition(s string) (n int, rest string, ok bool) {
	s, open := strings.CutPrefix(s, "(")
	if !open {
		return 1, s, true
	}
	digits, rest, closed := strings.Cut(s, ")")
	if !closed || len(digits) > maxNumber || count([]byte(digits), oneOf("0123456789")) != len(digits) {
		return 0, "", false
	}
	n, err := strconv.Atoi(digits)
	return n, rest, err == nil && n > 0
}
