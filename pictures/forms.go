package pictures

import (
	"strings"

	"columnseven/api"
)

// count returns how many elements have a property.
func count[E any](l []E, has func(E) bool) int {
	n := 0
	for _, x := range l {
		if has(x) {
			n++
		}
	}
	return n
}

// oneOf returns the property of a byte to be one of these.
func oneOf(these string) func(byte) bool {
	return func(c byte) bool { return strings.IndexByte(these, c) >= 0 }
}

// reader passes the symbols of an expanded picture from left to right.
type reader struct {
	rest string
}

// all passes a symbol as often as it stands here, and returns how often.
func (r *reader) all(symbol string) int {
	n := r.ahead(symbol)
	r.rest = r.rest[n:]
	return n
}

// ahead returns how often a symbol stands here.
func (r *reader) ahead(symbol string) int {
	return len(r.rest) - len(strings.TrimLeft(r.rest, symbol))
}

// pass passes a text, and reports whether it stands here.
func (r *reader) pass(text string) bool {
	rest, found := strings.CutPrefix(r.rest, text)
	r.rest = rest
	return found
}

// recognize returns the category of an expanded picture with its digits, scale and sign, and whether there is one.
func recognize(p string) (api.Shape, bool) {
	if s, ok := text(p); ok {
		return s, true
	}
	if s, ok := numeric(p); ok {
		return s, true
	}
	return edited(p)
}

// text recognizes the pictures whose symbols may stand in any order.
func text(p string) (api.Shape, bool) {
	only := func(these string) bool { return count([]byte(p), oneOf(these)) == len(p) }
	switch {
	case !strings.ContainsAny(p, "AX"):
		return api.Shape{}, false
	case only("A"):
		return api.Shape{Category: api.Alphabetic}, true
	case only("AX9"):
		return api.Shape{Category: api.Alphanumeric}, true
	case only("AX9B0/"):
		return api.Shape{Category: api.AlphaEdited}, true
	}
	return api.Shape{}, false
}

// numeric recognizes the pictures of numbers that are not edited.
func numeric(p string) (api.Shape, bool) {
	r := reader{p}
	s := api.Shape{Category: api.Numeric, Signed: r.pass("S")}
	front := r.pass("V")
	left := r.all("P")
	whole := r.all("9")
	s.Digits = whole
	switch {
	case front || left > 0:
		s.Scale = left + whole
	case r.ahead("P") > 0:
		s.Scale = -r.all("P")
		r.pass("V")
	case r.pass("V"):
		s.Scale = r.all("9")
		s.Digits += s.Scale
	}
	return s, whole > 0 && r.rest == ""
}
