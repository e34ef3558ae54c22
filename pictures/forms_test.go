package pictures

import (
	"math/rand"
	"strings"
	"testing"

	"columnseven/api"
)

func parsed(t *testing.T, s string, want api.Shape) {
	t.Helper()
	if got, e := Parse(s); e != api.OK || got != want {
		t.Errorf("Parse(%q) is %+v, %d, not %+v", s, got, e, want)
	}
}

func parseRefused(t *testing.T, s string, want api.Errno) {
	t.Helper()
	if got, e := Parse(s); e != want || got != (api.Shape{}) {
		t.Errorf("Parse(%q) is %+v, %d, not %d", s, got, e, want)
	}
}

// P6.2

func number(picture string, digits, scale int, signed bool) api.Shape {
	return api.Shape{Category: api.Numeric, Picture: picture, Digits: digits, Scale: scale, Signed: signed, Size: digits}
}

func TestParseText(t *testing.T) {
	for s, want := range map[string]api.Shape{
		"A(3)":       {Category: api.Alphabetic, Picture: "AAA", Size: 3},
		"A":          {Category: api.Alphabetic, Picture: "A", Size: 1},
		"XA9":        {Category: api.Alphanumeric, Picture: "XA9", Size: 3},
		"A9":         {Category: api.Alphanumeric, Picture: "A9", Size: 2},
		"9A":         {Category: api.Alphanumeric, Picture: "9A", Size: 2},
		"9(20)X":     {Category: api.Alphanumeric, Picture: strings.Repeat("9", 20) + "X", Size: 21},
		"X(256)":     {Category: api.Alphanumeric, Picture: strings.Repeat("X", 256), Size: 256},
		"X(2)BX(2)":  {Category: api.AlphaEdited, Picture: "XXBXX", Size: 5},
		"AB":         {Category: api.AlphaEdited, Picture: "AB", Size: 2},
		"0X":         {Category: api.AlphaEdited, Picture: "0X", Size: 2},
		"99/99/9A":   {Category: api.AlphaEdited, Picture: "99/99/9A", Size: 8},
		"B0/X9(200)": {Category: api.AlphaEdited, Picture: "B0/X" + strings.Repeat("9", 200), Size: 204},
	} {
		parsed(t, s, want)
	}
	for _, s := range []string{"X,X", "XV", "AZ", "X-", "SX", "AP", "X.9", "A$", "XDB", "A9CR"} {
		parseRefused(t, s, api.ErrForm)
	}
}

func TestParseNumeric(t *testing.T) {
	for s, want := range map[string]api.Shape{
		"9": number("9", 1, 0, false), "9(5)": number("99999", 5, 0, false), "S9": number("S9", 1, 0, true),
		"S9(3)V99": number("S999V99", 5, 2, true), "9V": number("9V", 1, 0, false), "S99V": number("S99V", 2, 0, true),
		"V9": number("V9", 1, 1, false), "SV9(3)": number("SV999", 3, 3, true), "VP9": number("VP9", 1, 2, false),
		"SVPP99": number("SVPP99", 2, 4, true), "P9": number("P9", 1, 2, false), "PP9": number("PP9", 1, 3, false),
		"9P": number("9P", 1, -1, false), "9(2)P(3)": number("99PPP", 2, -3, false), "S9PV": number("S9PV", 1, -1, true),
		"9(18)": number(strings.Repeat("9", 18), 18, 0, false), "9(9)V9(9)": number(strings.Repeat("9", 9)+"V"+strings.Repeat("9", 9), 18, 9, false),
		"P(17)9": number(strings.Repeat("P", 17)+"9", 1, 18, false), "9P(17)V": number("9"+strings.Repeat("P", 17)+"V", 1, -17, false),
	} {
		parsed(t, s, want)
	}
	for _, s := range []string{
		"S", "V", "P", "SV", "VP", "PV9", "P9V", "P9P", "VP9V", "9PV9", "9P9", "V9V", "9V9V", "9VV", "SS9", "9S", "9VP", "V9P", "VPPV9", "S(2)9", "9Z", "P(20)", "PVP9",
	} {
		parseRefused(t, s, api.ErrForm)
	}
	for _, s := range []string{"9(19)", "S9(10)V9(9)", "V9(19)", "9(9)P(10)", "P(18)9", "VP(18)9", "9P(18)", "9P(18)V", "9(256)", "X(257)", "9(257)"} {
		parseRefused(t, s, api.ErrLimit)
	}
}

func TestParseEdited(t *testing.T) {
	for _, x := range []struct {
		picture       string
		digits, scale int
		signed        bool
		size          int
	}{
		{"Z,ZZ9.99-", 6, 2, true, 9}, {"$**9", 3, 0, false, 4},
		{"$$$9", 3, 0, false, 4}, {"--9", 2, 0, true, 3}, {"99/99", 4, 0, false, 5},
		// A sign, and a tail.
		{"+9", 1, 0, true, 2}, {"-9", 1, 0, true, 2}, {"9+", 1, 0, true, 2},
		{"9-", 1, 0, true, 2}, {"9CR", 1, 0, true, 3}, {"9DB", 1, 0, true, 3},
		{"-$9.9", 2, 1, true, 5}, {"+$Z", 1, 0, true, 3}, {"+.9", 1, 1, true, 3},
		// A currency sign, and floating strings.
		{"$9", 1, 0, false, 2}, {"$Z", 1, 0, false, 2}, {"$.99", 2, 2, false, 4},
		{"$$", 1, 0, false, 2}, {"++", 1, 0, true, 2}, {"--", 1, 0, true, 2},
		{"$--9", 2, 0, true, 4}, {"$++", 1, 0, true, 3}, {"+$$9", 2, 0, true, 4},
		{"$$9CR", 2, 0, true, 5}, {"$$+", 1, 0, true, 3}, {"-$$.$$", 3, 2, true, 6},
		// The point, and the fraction.
		{"9.9", 2, 1, false, 3}, {"Z.9", 2, 1, false, 3}, {"Z.Z", 2, 1, false, 3},
		{"**.**", 4, 2, false, 5}, {"++.++", 3, 2, true, 5}, {"--V-", 2, 1, true, 3},
		{"$$V$", 2, 1, false, 3}, {"$$.9", 2, 1, false, 4}, {"Z9.9", 3, 1, false, 4},
		{".9", 1, 1, false, 2}, {".ZZ", 2, 2, false, 3}, {".*", 1, 1, false, 2},
		{"VZZ", 2, 2, false, 2}, {"V**-", 2, 2, true, 3}, {"V9-", 1, 1, true, 2},
		{"ZV", 1, 0, false, 1}, {"9V-", 1, 0, true, 2}, {"ZVZ+", 2, 1, true, 3}, {"$$V+", 1, 0, true, 3},
		// Insertion symbols.
		{"9,9", 2, 0, false, 3}, {"B,9", 1, 0, false, 3}, {"9,B", 1, 0, false, 3},
		{"9B", 1, 0, false, 2}, {"0(3)9", 1, 0, false, 4}, {"$,$$9", 3, 0, false, 5},
		{"+,+", 1, 0, true, 3}, {"$B$", 1, 0, false, 3}, {"B9BDB", 1, 0, true, 5},
		{"9,CR", 1, 0, true, 4}, {"9CRB", 1, 0, true, 4}, {"9C/R", 1, 0, true, 4},
		{"9.,9", 2, 1, false, 4}, {"9V9/", 2, 1, false, 3},
		// As many digits as there may be.
		{"Z(18)", 18, 0, false, 18}, {"$(19)", 18, 0, false, 19},
		{"-(10).9(9)", 18, 9, true, 20}, {"9B(255)", 1, 0, false, 256},
	} {
		p, _ := Expand(x.picture)
		parsed(t, x.picture, api.Shape{Category: api.Edited, Picture: p, Digits: x.digits, Scale: x.scale, Signed: x.signed, Size: x.size})
	}
}

func TestParseEditedForm(t *testing.T) {
	for _, s := range []string{
		"+Z9V9CR", "9Z", ",9", "9,", ",", ",Z,", "9-,", // from the chapter, and commas
		"B", "0", "/", "B0/", "+", "-", "$", ".", "*.", "9.", "+.", "V+", ".+", "$+", "+$", "CR", "DB", "BDB", "V-", ".CR", "V.", // no digits, or no fraction
		"+9+", "-9-", "+9-", "+9CR", "-9DB", "++9+", "--9-", "++9CR", "++9DB", "--9DB", "+--9", "-++", "+--", "--+", "9+-", "9++", "9CRDB", "9CR+", "+-", "-+9", // signs
		"$$9$", "9$", "$9$", "$+9", "$-$", "++$9", "--$$", "$$++", "$$--9", "+$--", "$-9", "$$-$", "Z$", "Z+Z", // currency signs
		"Z*9", "*Z", "9Z9", "9*", "Z9Z", "$$Z", "--Z", "++*", "$Z*", "9--9", "ZZ$$", "9$$", // whole parts
		"Z9.Z", "9.Z", "9.*", "Z.*", "*.Z", "$$.Z", "++.-", "--.+", "$$9.$", ".Z9", ".9Z", "Z.Z9", "Z.9Z", ".$$", ".++", "V$$", ".Z*", "$.$", "+.+", "$.$$", // fractions
		"9..9", "9V.9", "9.V9", "9.9V9", "Z.9.9", "ZVV", "9V9.9", // points
		"SZ", "Z9S", "S9-", "ZP", "PZ", "9P-", "S9.9", "9PV-", // other symbols
		"9C", "9R", "9D", "9RC", "9BD", "DB9", "CR9", "9DBB", "9D/B", "9DBDB", "9DDB", "9DB/", "9D0B", "9CRR", "9CCR", // tails
	} {
		parseRefused(t, s, api.ErrForm)
	}
	for _, s := range []string{"Z(19)", "$(20)", "-(20)", "Z(10).9(9)", "9(18)/9", ".Z(19)", "*(19)", "+9(19)", "$(10).$(10)", "9B(256)"} {
		parseRefused(t, s, api.ErrLimit)
	}
	for _, s := range []string{"9(19)Z", "Z(19)S", "9(19)+-", "A(", "x", "X(0)", "A(200)Z"} {
		parseRefused(t, s, api.ErrForm)
	}
}

func sameAsChapter(t *testing.T) func(string) {
	return func(p string) {
		want, e := expected(p)
		if got, f := Parse(p); got != want || e != f {
			t.Errorf("Parse(%q) is %+v, %d, not %+v, %d", p, got, f, want, e)
		}
	}
}

// TestParseAll compares all short pictures with the forms of the chapter.
func TestParseAll(t *testing.T) {
	check := sameAsChapter(t)
	allOf(chapterSymbols, 4, check)
	allOf("AX9B0,", 4, check)
	allOf("SVP9", 6, check)
	allOf("+-$9.", 5, check)
	allOf("Z*9.V-", 5, check)
	allOf("9+-CRDB", 5, check)
	allOf("$,.9B", 5, check)
	allOf("+$V.", 7, check)
}

// TestParseRandom compares longer pictures, made of parts, with the forms of the chapter.
func TestParseRandom(t *testing.T) {
	r := rand.New(rand.NewSource(6))
	check := sameAsChapter(t)
	pick := func(l ...string) string { return l[r.Intn(len(l))] }
	many := func(s string) string { return strings.Repeat(s, r.Intn(9)) }
	for range 20000 {
		symbol := pick("Z", "*", "$", "+", "-", "9")
		p := pick("", "", "+", "-") + pick("", "", "$") + many(symbol) + many(pick("9", ",", "", "B")) + pick("", "", ".", "V") +
			many(pick("9", symbol, "Z")) + pick("", "", "+", "-", "CR", "DB", "/")
		check(p)
		check(pick("", "S") + pick("", "V") + many(pick("", "P")) + many("9") + many(pick("", "", "P")) + pick("", "V") + many(pick("", "9")))
	}
}
