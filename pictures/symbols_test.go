package pictures

import (
	"strings"
	"testing"

	"columnseven/api"
)

// allOf calls a function with all texts of at most n symbols.
func allOf(symbols string, n int, f func(string)) {
	var extend func(string)
	extend = func(s string) {
		f(s)
		if len(s) < n {
			for _, c := range symbols {
				extend(s + string(c))
			}
		}
	}
	extend("")
}

func expandsTo(t *testing.T, s, want string) {
	t.Helper()
	if got, e := Expand(s); e != api.OK || got != want {
		t.Errorf("Expand(%q) is %q, %d, not %q", s, got, e, want)
	}
}

// notExpanded checks that Expand and Short return an error, and no picture with it.
func notExpanded(t *testing.T, s string, want api.Errno) {
	t.Helper()
	if got, e := Expand(s); e != want || got != "" {
		t.Errorf("Expand(%q) is %q, %d, not %d", s, got, e, want)
	}
	if got, e := Short(s); e != want || got != "" {
		t.Errorf("Short(%q) is %q, %d, not %d", s, got, e, want)
	}
}

// P6.1

func TestExpand(t *testing.T) {
	for s, want := range map[string]string{
		"9": "9", "A(3)": "AAA", "XA9": "XA9", "S9(3)V99": "S999V99", "X(1)": "X", "X(00001)": "X", "X(010)": strings.Repeat("X", 10),
		"9(2)9(3)": "99999", "Z(2).9(2)-": "ZZ.99-", "*(2)-(3)+(1)": "**---+", "0(3)/(2)": "000//", "D(2)R(2)C": "DDRRC",
		".(2),(2)": "..,,", "$$(2)": "$$$", "P(18)V": strings.Repeat("P", 18) + "V", "RDCBVS": "RDCBVS", chapterSymbols: chapterSymbols,
		"9(00256)": strings.Repeat("9", 256), "X(255)X": strings.Repeat("X", 256), "X(256)": strings.Repeat("X", 256),
	} {
		expandsTo(t, s, want)
	}
}

func TestExpandForm(t *testing.T) {
	for _, s := range []string{
		"", " ", "9 ", " 9", "x", "a(3)", "X(0)", "X(00000)", "X(000001)", "X(123456)", "A(", "A()", "A(3", "A3)", "A)", "(", ")", "(3)", "(3)A",
		"A((3))", "A(3)(2)", "A(3))", "A(3)(", "A(+3)", "A(-3)", "A( 3)", "A(3 )", "A(3.)", "A(A)", "A(1_0)", "A(0x1)", "A(٣)", "E", "Y", "8", "1", "=",
		"A(3)b", "9;", "9\x00", "\xff", "9\xb2", "X(3", "X(3]", "X[3]", "'9'", "9\n",
	} {
		notExpanded(t, s, api.ErrForm)
	}
	for c := range 256 {
		s := string([]byte{byte(c)})
		if strings.Contains(chapterSymbols, s) {
			expandsTo(t, s, s)
			expandsTo(t, s+"(2)", s+s)
		} else {
			notExpanded(t, s, api.ErrForm)
			notExpanded(t, "X"+s, api.ErrForm)
		}
		if c < '0' || c > '9' {
			notExpanded(t, "X("+s+")", api.ErrForm)
			notExpanded(t, "X(1"+s+"1)", api.ErrForm)
		}
	}
}

func TestExpandLimit(t *testing.T) {
	for _, s := range []string{
		"X(257)", "X(99999)", "X(256)A", "AX(256)", "X(128)9(129)", strings.Repeat("X", 257), strings.Repeat("X(99999)", 1000), "C(257)", "X(00257)",
	} {
		notExpanded(t, s, api.ErrLimit)
	}
	for _, s := range []string{"X(257)?", "X(99999)X(", "X(300)X(0)", strings.Repeat("X", 300) + "x", "X(999999)"} {
		notExpanded(t, s, api.ErrForm)
	}
}

func TestShort(t *testing.T) {
	for s, want := range map[string]string{
		"XXXXX9999": "X(5)9999", "XXXXX": "X(5)", "XXXX": "XXXX", "X(4)": "XXXX", "X(3)X(2)": "X(5)", "XX(3)X": "X(5)", "9(00012)": "9(12)",
		"S9(5)V9(4)": "S9(5)V9999", "A(256)": "A(256)", "XXXXXAXXXXX": "X(5)AX(5)", "B(6)B0(1)": "B(7)0", "X(99)X": "X(100)", "R(2)D": "RRD",
	} {
		if got, e := Short(s); e != api.OK || got != want {
			t.Errorf("Short(%q) is %q, %d, not %q", s, got, e, want)
		}
	}
}

// TestShortShortest compares with all texts of some characters, which are grouped by what they expand to.
func TestShortShortest(t *testing.T) {
	texts := 0
	allOf("X9(15)", 7, func(s string) {
		p, e := Expand(s)
		if e != api.OK {
			return
		}
		texts++
		short, e := Short(p)
		if e != api.OK || len(short) > len(s) {
			t.Errorf("Short(%q) is %q, %d, longer than %q", p, short, e, s)
		}
		expandsTo(t, short, p)
	})
	if texts < 500 {
		t.Errorf("there were only %d texts", texts)
	}
}
