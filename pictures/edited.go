package pictures

import (
	"slices"
	"strings"

	"columnseven/api"
)

// edited recognizes the pictures of edited numbers.
func edited(p string) (api.Shape, bool) {
	if strings.HasPrefix(p, ",") || strings.HasSuffix(p, ",") {
		return api.Shape{}, false
	}
	r := reader{withoutInsertions(p)}
	sign := r.single("+") || r.single("-")
	r.single("$")
	first, digits := r.beginning()
	floatingSign := first == "+" || first == "-"
	nines := r.all("9")
	fraction, ok := r.fraction(fractions(first, nines))
	tail := r.pass("+") || r.pass("-") || r.pass("CR") || r.pass("DB")
	signs := count([]bool{sign, floatingSign, tail}, func(there bool) bool { return there })
	s := api.Shape{Category: api.Edited, Digits: digits + nines + fraction, Scale: fraction, Signed: signs > 0}
	return s, ok && r.rest == "" && s.Digits > 0 && signs <= 1
}

// withoutInsertions leaves out the insertion symbols of a picture.
func withoutInsertions(p string) string {
	front, debit := strings.CutSuffix(p, "DB")
	rest := string(slices.DeleteFunc([]byte(front), oneOf("B0/,")))
	if debit {
		rest += "DB"
	}
	return rest
}

// single passes a symbol that stands here once: if it stands here more often, it begins a floating string.
func (r *reader) single(symbol string) bool {
	return r.ahead(symbol) == 1 && r.pass(symbol)
}

// beginning passes the symbols of the whole part in front of its nines, and returns the first one, or nothing if there
// is none, and the number of digits.
func (r *reader) beginning() (first string, digits int) {
	for _, symbol := range []string{"Z", "*"} {
		if n := r.all(symbol); n > 0 {
			return symbol, n
		}
	}
	for _, symbol := range []string{"$", "+", "-"} {
		if r.ahead(symbol) > 1 {
			return symbol, r.all(symbol) - 1
		}
	}
	return "", 0
}

// fractions returns the symbols of which a fraction may consist, behind the beginning of the whole part and its nines.
func fractions(first string, nines int) string {
	switch {
	case nines > 0:
		return "9"
	case first == "":
		return "9Z*"
	}
	return "9" + first
}

// fraction passes the point, if there is one, and the fraction behind it, which consists of one of these symbols. It
// returns the number of symbols of the fraction, and whether there may be as many.
func (r *reader) fraction(these string) (int, bool) {
	period := r.pass(".")
	if !period && !r.pass("V") {
		return 0, true
	}
	if r.rest == "" || strings.IndexByte(these, r.rest[0]) < 0 {
		return 0, !period
	}
	return r.all(r.rest[:1]), true
}
