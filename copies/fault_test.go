package copies

import (
	"slices"
	"testing"

	"columnseven/api"
)

// P4.2 and P4.3: statements that are malformed

// malformed returns texts in line 1, and the columns of their first faults of form.
func malformed() map[string]int {
	return map[string]int{
		// the name
		"COPY .":               17,
		"COPY 1.":              17,
		"COPY -1.5.":           17,
		"COPY (.":              17,
		"COPY ==A==.":          17,
		"COPY PIC X.":          21,
		"COPY A B.":            19,
		`COPY "A" "B".`:        21,
		"COPY A 1.":            19,
		"COPY A OF B.":         19,
		"COPY A BY B.":         19,
		"COPY A ==B== BY C.":   19,
		"COPY A-1 (1).":        21,
		"COPY A COPY B.":       19,
		"COPY COPY A.":         22,
		"COPY REPLACING A.":    27,
		`COPY A "REPLACING" B`: 19,
		// the first operand
		"COPY A REPLACING.":                28,
		"COPY A REPLACING .":               29,
		"COPY A REPLACING ( BY B.":         29,
		"COPY A REPLACING - BY B.":         29,
		"COPY A REPLACING ====.":           31,
		"COPY A REPLACING == == BY B.":     32,
		"COPY A REPLACING ==== BY ====.":   31,
		"COPY A REPLACING PIC X BY B.":     33,
		"COPY A REPLACING X BY Y ==== BY.": 38,
		// BY
		"COPY A REPLACING X.":                30,
		"COPY A REPLACING X Y.":              31,
		"COPY A REPLACING X Y BY Z.":         31,
		`COPY A REPLACING X "BY" Y.`:         31,
		"COPY A REPLACING X = Y.":            31,
		"COPY A REPLACING ==X== ==Y==.":      35,
		"COPY A REPLACING ==X==.":            34,
		"COPY A REPLACING BY BY.":            34,
		"COPY A REPLACING BY X.":             32,
		"COPY A REPLACING REPLACING X BY Y.": 39,
		"COPY A REPLACING X BY Y Z.":         37,
		"COPY A REPLACING X BY Y BY Z.":      39,
		"COPY A REPLACING X BY Y Z W.":       38,
		// the second operand
		"COPY A REPLACING X BY.":             33,
		"COPY A REPLACING X BY ).":           34,
		"COPY A REPLACING X BY == == Y.":     41,
		"COPY A REPLACING ==X== BY .":        38,
		"COPY A REPLACING X BY PIC 9.":       38,
		"COPY A REPLACING X BY Y Z BY .":     41,
		"COPY A REPLACING X BY Y, Z BY +1 *": 45,
		// a list that ends too early
		"COPY":                                12,
		"  COPY":                              14,
		"MOVE. COPY A":                        18,
		"COPY A REPLACING":                    12,
		"COPY A REPLACING X":                  12,
		"COPY A REPLACING X BY":               12,
		"COPY A REPLACING X BY Y":             12,
		"COPY A REPLACING X BY Y Z":           12,
		"COPY A REPLACING ==":                 12,
		"COPY A REPLACING ==X":                12,
		"COPY A REPLACING ==X. COPY B. MOVE.": 12,
		"COPY A REPLACING ==X==":              12,
		"COPY A REPLACING X BY ==":            12,
		"COPY A REPLACING X BY ==Y. MOVE.":    12,
		"COPY A REPLACING X BY ====":          12,
		"COPY A REPLACING X BY == == ==.":     12,
		"COPY A. COPY A":                      20,
		"COPY A. COPY A REPLACING X BY ==.":   20,
		// The first fault counts.
		"COPY A. COPY 1. COPY 2.": 25,
		"COPY A 1. COPY":          19,
		"COPY A. COPY COPY COPY.": 30,
	}
}

func TestMalformedStatements(t *testing.T) {
	l := shelf(t, "A", "X", "REPLACING", "Y", "COPY", "Z")
	for s, column := range malformed() {
		want := fault(api.ErrForm, 1, column)
		checkFault(t, l, s, want)
		checkFault(t, l, "MOVE X. COPY A REPLACING X BY ==Y. ==. "+s, fault(api.ErrForm, 1, column+39))
		checkUsesFault(t, s, want)
		inner := append(shelf(t, "M", s), l...)
		checkFault(t, inner, "COPY A. COPY M.", fault(api.ErrForm, 11, column))
		checkFault(t, inner, "COPY M. COPY", fault(api.ErrForm, 11, column))
	}
}

// A token does not fit because of its kind, whatever its text is.
func TestMalformedKinds(t *testing.T) {
	for before, fitting := range map[string][]api.Kind{
		"COPY":                     {api.Word, api.Quote},
		"COPY A":                   {api.Period},
		"COPY A REPLACING":         {api.Word, api.Number, api.Quote, api.Pseudo},
		"COPY A REPLACING X":       nil,
		"COPY A REPLACING X BY":    {api.Word, api.Number, api.Quote, api.Pseudo},
		"COPY A REPLACING X BY Y":  {api.Word, api.Number, api.Quote, api.Pseudo, api.Period},
		"COPY A REPLACING ==X==":   nil,
		"COPY A REPLACING == ==":   nil,
		"COPY A REPLACING X BY ==": {0, api.Word, api.Number, api.Quote, api.Picture, api.Sign, api.Period, api.Pseudo, 8, 255},
	} {
		for _, k := range []api.Kind{0, api.Word, api.Number, api.Quote, api.Picture, api.Sign, api.Period, api.Pseudo, 8, 255} {
			for _, text := range []string{"", "A", "COPY", "replacing", "by", "."} {
				x := api.Token{Kind: k, Text: text, At: pos(3, 4), Left: true}
				l := append(list(t, before), x)
				wrong := fault(api.ErrForm, 3, 4)
				switch {
				case before == "COPY A REPLACING == ==":
					wrong = fault(api.ErrForm, 1, 32)
				case k == api.Period && slices.Contains(fitting, k) && before != "COPY A REPLACING X BY ==":
					wrong = api.Fault{}
				case slices.Contains(fitting, k):
					wrong = fault(api.ErrForm, 1, 12)
				}
				if _, n, f := Expand(l, shelf(t, "A", "X")); f != wrong || f.E != api.OK && len(n) != 0 {
					t.Errorf("%s, %+v: %q, %v", before, x, n, f)
				}
				if n, f := Uses(l); f != wrong || f.E != api.OK && len(n) != 0 {
					t.Errorf("%s, %+v: %q, %v", before, x, n, f)
				}
			}
		}
	}
}

func TestOrderOfFaults(t *testing.T) {
	l := shelf(t, "A", "1", "BAD", "COPY A. COPY A B.", "NONE-IN", "COPY NO. COPY", "LOOP", "COPY A. COPY LOOP. COPY 1.")
	for text, want := range map[string]api.Fault{
		"COPY NO.":                     fault(api.ErrNone, 1, 17),
		`COPY "NO".`:                   fault(api.ErrNone, 1, 17),
		"COPY A. COPY NO.":             fault(api.ErrNone, 1, 25),
		"COPY NO REPLACING A BY B.":    fault(api.ErrNone, 1, 17),
		"COPY NO REPLACING A BY B C.":  fault(api.ErrForm, 1, 38),
		"COPY NO REPLACING A BY B":     fault(api.ErrForm, 1, 12),
		"COPY NO":                      fault(api.ErrForm, 1, 12),
		"COPY NO NO.":                  fault(api.ErrForm, 1, 20),
		"COPY NO. COPY 1.":             fault(api.ErrNone, 1, 17),
		"COPY 1. COPY NO.":             fault(api.ErrForm, 1, 17),
		"COPY NO. COPY LOOP.":          fault(api.ErrNone, 1, 17),
		"COPY BAD. COPY NO.":           fault(api.ErrForm, 12, 27),
		"COPY NO. COPY BAD.":           fault(api.ErrNone, 1, 17),
		"COPY NONE-IN.":                fault(api.ErrNone, 13, 17),
		"COPY NONE-IN":                 fault(api.ErrForm, 1, 12),
		"COPY LOOP. COPY BAD.":         fault(api.ErrLoop, 14, 25),
		"COPY A. COPY LOOP. COPY A B.": fault(api.ErrLoop, 14, 25),
		"COPY LOOP LOOP.":              fault(api.ErrForm, 1, 22),
	} {
		checkFault(t, l, text, want)
	}
	checkFault(t, nil, "COPY A.", fault(api.ErrNone, 1, 17))
	checkFault(t, []Member{}, "COPY A.", fault(api.ErrNone, 1, 17))
}
