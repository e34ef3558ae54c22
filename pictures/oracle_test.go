package pictures

import (
	"regexp"
	"strings"

	"columnseven/api"
)

// chapterSymbols are the symbols of the chapter, in its order.
const chapterSymbols = "AX9SVPZ*+-.,$B0/CRD"

// The forms of the chapter, as regular expressions.
var (
	alphabetic   = regexp.MustCompile(`^A+$`)
	alphanumeric = regexp.MustCompile(`^[AX9]*[AX][AX9]*$`)
	alphaEdited  = regexp.MustCompile(`^[AX9B0/]*[AX][AX9B0/]*$`)
	number9      = regexp.MustCompile(`^S?(99*|99*V9*|V99*|VPP*99*|PP*99*|99*PP*|99*PP*V)$`)
	wholePart    = regexp.MustCompile(`^(Z*9*|\**9*|\$\$+9*|\+\++9*|--+9*)$`)
	sameSymbol   = regexp.MustCompile(`^(Z*|\**|\$*|\+*|-*)$`)
	onlyNines    = regexp.MustCompile(`^9*$`)
	onlyZ        = regexp.MustCompile(`^(ZZ*|\*\**)$`)
	insertions   = regexp.MustCompile(`[B0/,]`)
)

// expected returns the shape of an expanded picture, or ErrForm if it has none of the forms of the chapter.
func expected(p string) (api.Shape, api.Errno) {
	s := api.Shape{Picture: p, Size: len(p)}
	switch {
	case alphabetic.MatchString(p):
		s.Category = api.Alphabetic
		return s, api.OK
	case alphanumeric.MatchString(p):
		s.Category = api.Alphanumeric
		return s, api.OK
	case alphaEdited.MatchString(p):
		s.Category = api.AlphaEdited
		return s, api.OK
	case number9.MatchString(p):
		return expectedNumeric(p)
	}
	return expectedEdited(p)
}

func expectedNumeric(p string) (api.Shape, api.Errno) {
	n, scaling := strings.Count(p, "9"), strings.Count(p, "P")
	s := api.Shape{Category: api.Numeric, Picture: p, Digits: n, Signed: p[0] == 'S', Size: n}
	_, behind, _ := strings.Cut(p, "V")
	switch {
	case scaling > 0 && strings.Index(p, "P") < strings.Index(p, "9"):
		s.Scale = n + scaling
	case scaling > 0:
		s.Scale = -scaling
	default:
		s.Scale = strings.Count(behind, "9")
	}
	if n+scaling > api.MaxDigits {
		return api.Shape{}, api.ErrLimit
	}
	return s, api.OK
}

// reading is a way to divide an edited picture, without its insertion symbols, into its parts.
type reading struct {
	sign, currency, whole, point, fraction, tail string
}

// readings returns all divisions of a text into parts, of which each is possible on its own.
func readings(t string) []reading {
	var l []reading
	for _, sign := range []string{"", "+", "-"} {
		for _, currency := range []string{"", "$"} {
			for _, tail := range []string{"", "+", "-", "CR", "DB"} {
				front, back := sign+currency, tail
				if len(t) < len(front)+len(back) || !strings.HasPrefix(t, front) || !strings.HasSuffix(t, back) {
					continue
				}
				middle := t[len(front) : len(t)-len(back)]
				if wholePart.MatchString(middle) {
					l = append(l, reading{sign: sign, currency: currency, whole: middle, tail: tail})
				}
				for i, c := range middle {
					if (c == '.' || c == 'V') && wholePart.MatchString(middle[:i]) {
						l = append(l, reading{sign, currency, middle[:i], string(c), middle[i+1:], tail})
					}
				}
			}
		}
	}
	return l
}

// floating reports whether the whole part begins with a floating string.
func (r reading) floating() bool { return r.whole != "" && strings.Contains("$+-", r.whole[:1]) }

// possible reports whether the parts go together.
func (r reading) possible() bool {
	signs := 0
	for _, there := range []bool{r.sign != "", r.tail != "", r.floating() && r.whole[0] != '$'} {
		if there {
			signs++
		}
	}
	switch {
	case signs > 1 || r.currency != "" && r.floating() && r.whole[0] == '$':
		return false
	case r.point == "." && r.fraction == "":
		return false
	case onlyNines.MatchString(r.fraction):
		return true
	case r.whole == "":
		return onlyZ.MatchString(r.fraction)
	}
	return sameSymbol.MatchString(r.whole + r.fraction)
}

func (r reading) shape(p string) api.Shape {
	digits := len(r.whole) + len(r.fraction)
	if r.floating() {
		digits--
	}
	return api.Shape{
		Category: api.Edited, Picture: p, Digits: digits, Scale: len(r.fraction),
		Signed: r.sign != "" || r.tail != "" || r.floating() && r.whole[0] != '$',
		Size:   len(p) - strings.Count(p, "V"),
	}
}

// expectedEdited tries all divisions; it panics if two of them, which are possible, have different shapes.
func expectedEdited(p string) (api.Shape, api.Errno) {
	if p == "" || p[0] == ',' || p[len(p)-1] == ',' {
		return api.Shape{}, api.ErrForm
	}
	t := insertions.ReplaceAllString(p, "")
	if strings.HasSuffix(p, "DB") {
		t += "B"
	}
	found := api.Shape{}
	for _, r := range readings(t) {
		if s := r.shape(p); r.possible() && s.Digits > 0 {
			if found != (api.Shape{}) && found != s {
				panic("the chapter is ambiguous about " + p)
			}
			found = s
		}
	}
	switch {
	case found == (api.Shape{}):
		return api.Shape{}, api.ErrForm
	case found.Digits > api.MaxDigits:
		return api.Shape{}, api.ErrLimit
	}
	return found, api.OK
}
