package words

import (
	"slices"
	"strings"

	"columnseven/api"
	"columnseven/chars"
)

// The overpunched digits from 0 to 9.
const (
	plusDigits  = "{ABCDEFGHI"
	minusDigits = "}JKLMNOPQR"
)

// numeral is the text of a Number in its parts.
type numeral struct {
	sign     string // empty if there is none
	whole    string // the digits in front of the period
	fraction string // those behind it
}

// divide returns the parts of the text of a Number.
func divide(s string) (numeral, api.Errno) {
	sign := ""
	if strings.HasPrefix(s, "+") || strings.HasPrefix(s, "-") {
		sign, s = s[:1], s[1:]
	}
	whole, fraction, period := strings.Cut(s, ".")
	n := numeral{sign: sign, whole: whole, fraction: fraction}
	if period && fraction == "" || !chars.IsDigits(n.digits()) {
		return numeral{}, api.ErrForm
	}
	return n, api.OK
}

func (n numeral) digits() string { return n.whole + n.fraction }

func (n numeral) picture() string {
	p := strings.Repeat("9", len(n.whole))
	if n.sign != "" {
		p = "S" + p
	}
	if n.fraction != "" {
		p += "V" + strings.Repeat("9", len(n.fraction))
	}
	return p
}

// bytes returns the digits, the last one overpunched if there is a sign.
func (n numeral) bytes() []byte {
	b := []byte(n.digits())
	last := len(b) - 1
	switch n.sign {
	case "+":
		b[last] = plusDigits[b[last]-'0']
	case "-":
		b[last] = minusDigits[b[last]-'0']
	}
	return b
}

// newField returns the field of a shape whose size is not set yet.
func newField(s api.Shape, b []byte) api.Field {
	s.Size = len(b)
	return api.Field{Shape: s, Bytes: slices.Clip(b)}
}

// number returns the field of the text of a Number.
func number(s string) (api.Field, api.Errno) {
	n, e := divide(s)
	if e != api.OK {
		return api.Field{}, e
	}
	if len(n.digits()) > api.MaxDigits {
		return api.Field{}, api.ErrWidth
	}
	return newField(api.Shape{
		Category: api.Numeric,
		Picture:  n.picture(),
		Digits:   len(n.digits()),
		Scale:    len(n.fraction),
		Signed:   n.sign != "",
	}, n.bytes()), api.OK
}

// alphanumeric returns the field of a text.
func alphanumeric(b []byte) api.Field {
	return newField(api.Shape{Category: api.Alphanumeric, Picture: strings.Repeat("X", len(b))}, b)
}

// quote returns the field of the text of a Quote.
func quote(s string) (api.Field, api.Errno) {
	if s == "" || len(s) > api.MaxPicture {
		return api.Field{}, api.ErrWidth
	}
	return alphanumeric([]byte(s)), api.OK
}

// figurative returns the field of a figurative constant.
func figurative(s string) (api.Field, api.Errno) {
	b, ok := Byte(s)
	if !ok {
		return api.Field{}, api.ErrWord
	}
	switch s {
	case "ZERO":
		fallthrough
	case "ZEROS":
		fallthrough
	case "ZEROES":
		return number("0")
	}
	return alphanumeric([]byte{b}), api.OK
}
