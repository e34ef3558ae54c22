package columns

import (
	"strings"
	"testing"

	"columnseven/api"
)

// checkWrite checks the lines, from column 7 on, of texts that are laid out; their numbers are added.
func checkWrite(t *testing.T, l []Line, want ...string) {
	t.Helper()
	source := ""
	for i, s := range want {
		source += "00000" + string(rune('1'+i)) + s + "\n"
	}
	if got, e := Write(l); got != source || e != api.OK {
		t.Errorf("%v: %d,\n%sinstead of\n%s", l, e, got, source)
	}
}

func one(left bool, text string) []Line { return []Line{{Left: left, Text: text}} }

func xs(n int) string { return strings.Repeat("x", n) }

const (
	inA  = " "         // an indicator, and area A
	inB  = "     "     // an indicator, and the columns up to area B
	more = "-    "     // a continuation
	lit  = "-    " + q // a continuation of an open text
	q    = `"`
)

// P2.3

func TestWriteExamples(t *testing.T) {
	if got, e := Write(one(false, "STOP RUN.")); got != "000001     STOP RUN.\n" || e != api.OK {
		t.Errorf("%q, %d", got, e)
	}
	if got, e := Write(one(true, "STOP RUN.")); got != "000001 STOP RUN.\n" || e != api.OK {
		t.Errorf("%q, %d", got, e)
	}
}

func TestWriteLines(t *testing.T) {
	for _, l := range [][]Line{nil, {}} {
		if got, e := Write(l); got != "" || e != api.OK {
			t.Errorf("%q, %d", got, e)
		}
	}
	checkWrite(t, []Line{{true, "A"}, {false, "B"}, {false, "C  D"}, {true, `"E F"`}}, inA+"A", inB+"B", inB+"C  D", inA+`"E F"`)
	checkWrite(t, []Line{{true, "*"}, {true, "-"}, {false, "/"}}, inA+"*", inA+"-", inB+"/")
	checkWrite(t, []Line{{false, xs(61) + " A"}, {true, "B"}}, inB+xs(61), inB+"A", inA+"B")
}

func TestWriteDivides(t *testing.T) {
	// What fits is not divided; otherwise there are 65 columns from column 8 on, and 61 from column 12 on.
	checkWrite(t, one(true, xs(65)), inA+xs(65))
	checkWrite(t, one(true, xs(66)), inA+xs(65), more+"x")
	checkWrite(t, one(false, xs(61)), inB+xs(61))
	checkWrite(t, one(false, xs(62)), inB+xs(61), more+"x")
	checkWrite(t, one(false, xs(122)), inB+xs(61), more+xs(61))
	checkWrite(t, one(true, xs(65+61+1)), inA+xs(65), more+xs(61), more+"x")
}

func TestWriteDividesAtSpaces(t *testing.T) {
	checkWrite(t, one(false, xs(59)+" A"), inB+xs(59)+" A")
	checkWrite(t, one(false, xs(59)+" AB"), inB+xs(59), inB+"AB")
	checkWrite(t, one(false, xs(61)+" A"), inB+xs(61), inB+"A")
	checkWrite(t, one(false, xs(62)+" A"), inB+xs(61), more+"x A")
	checkWrite(t, one(true, xs(65)+" A"), inA+xs(65), inB+"A")
	checkWrite(t, one(true, xs(66)+" A"), inA+xs(65), more+"x A")
	// Already the space at index 1, and the last one of several.
	checkWrite(t, one(false, "A "+xs(61)), inB+"A", inB+xs(61))
	checkWrite(t, one(false, "A B "+xs(60)), inB+"A B", inB+xs(60))
	// Of consecutive spaces, those from the last one in reach on are left out.
	checkWrite(t, one(false, "A   "+xs(61)), inB+"A  ", inB+xs(61))
	checkWrite(t, one(false, xs(61)+"   A"), inB+xs(61), inB+"A")
	checkWrite(t, one(false, xs(60)+"   A"), inB+xs(60)+" ", inB+"A")
	checkWrite(t, one(false, xs(3)+spaces(100)+"A"), inB+xs(3)+spaces(58), inB+"A")
	// The rest is divided likewise, with 61 columns, also if the text began in area A.
	checkWrite(t, one(true, "A "+xs(60)+" "+xs(61)+" B"), inA+"A "+xs(60), inB+xs(61), inB+"B")
	checkWrite(t, one(true, "A "+xs(70)+" B"), inA+"A", inB+xs(61), more+xs(9)+" B")
}

func TestWriteDividesLiterals(t *testing.T) {
	// A space within quotes divides nothing; the rest follows behind a quote, with 60 columns.
	checkWrite(t, one(false, q+"A "+xs(58)+q), inB+q+"A "+xs(58), lit+q)
	checkWrite(t, one(true, q+"A "+xs(62)+q), inA+q+"A "+xs(62), lit+q)
	checkWrite(t, one(false, q+xs(60)+xs(59)+q), inB+q+xs(60), lit+xs(59)+q)
	checkWrite(t, one(false, q+xs(60)+xs(60)+q), inB+q+xs(60), lit+xs(60), lit+q)
	checkWrite(t, one(false, q+xs(60)+xs(60)+xs(10)+q), inB+q+xs(60), lit+xs(60), lit+xs(10)+q)
	// Spaces within quotes are kept at the end of a line and at the beginning of the next one.
	checkWrite(t, one(false, q+spaces(62)+"A"+q), inB+q+spaces(60), lit+"  A"+q)
	// A space before the literal is taken, one within it is not.
	checkWrite(t, one(false, "MOVE "+q+"A B"+spaces(60)+q), inB+"MOVE", inB+q+"A B"+spaces(57), lit+"   "+q)
	checkWrite(t, one(false, q+"A B"+q+" "+xs(60)), inB+q+"A B"+q, inB+xs(60))
	// The space behind the quote that closes.
	checkWrite(t, one(false, q+xs(60)+q+" "+xs(59)), inB+q+xs(60), lit+q, inB+xs(59))
	checkWrite(t, one(false, q+xs(60)+q+" "+xs(58)), inB+q+xs(60), lit+q+" "+xs(58))
	checkWrite(t, one(false, q+xs(60)+xs(59)+q+" A"), inB+q+xs(60), lit+xs(59)+q, inB+"A")
	// Divided where it is closed: there is no quote of the continuation's own.
	checkWrite(t, one(false, q+xs(59)+q+q+"A"+q), inB+q+xs(59)+q, more+q+"A"+q)
	checkWrite(t, one(false, q+xs(59)+q+"."), inB+q+xs(59)+q, more+".")
	// Divided between two quotes that stand for one, and before the one that closes.
	checkWrite(t, one(false, q+xs(60)+q+q+"B"+q), inB+q+xs(60), lit+q+q+"B"+q)
}

func TestWriteInvalidTexts(t *testing.T) {
	bad := []string{"", " ", " A", "A ", "A\n", "\tA", "A\x00B", "A\x7f", "A\u00e4B", q, "A" + q, q + "A", q + q + q, q + "A" + q + " " + q}
	for _, s := range bad {
		for _, left := range []bool{false, true} {
			for _, l := range [][]Line{{{left, s}}, {{left, "A"}, {left, s}}, {{left, s}, {left, "A"}}} {
				if got, e := Write(l); got != "" || e != api.ErrArg {
					t.Errorf("%v: %q, %d", l, got, e)
				}
			}
		}
	}
	for c := range 256 {
		s := "A" + string([]byte{byte(c)}) + "B"
		want := api.OK
		if c < 32 || c > 126 || c == '"' {
			want = api.ErrArg
		}
		if _, e := Write(one(true, s)); e != want {
			t.Errorf("%q: %d", s, e)
		}
	}
	for _, s := range []string{q + q, q + " " + q, q + q + q + q, "A" + q + " B " + q} {
		if _, e := Write(one(true, s)); e != api.OK {
			t.Errorf("%q: %d", s, e)
		}
	}
}

func TestWriteLimit(t *testing.T) {
	var l []Line
	for range api.MaxText / 16 {
		l = append(l, Line{true, xs(8)})
	}
	if got, e := Write(l); len(got) != api.MaxText || e != api.OK {
		t.Errorf("%d bytes, %d", len(got), e)
	}
	l[5].Text = xs(9)
	if got, e := Write(l); got != "" || e != api.ErrLimit {
		t.Errorf("one byte more: %d bytes, %d", len(got), e)
	}
	l[5].Text = xs(8)
	l = append(l, Line{true, "A"})
	if got, e := Write(l); got != "" || e != api.ErrLimit {
		t.Errorf("one line more: %d bytes, %d", len(got), e)
	}
	// An invalid text is named first, also if it stands behind the limit.
	l = append(l, Line{true, ""})
	if got, e := Write(l); got != "" || e != api.ErrArg {
		t.Errorf("an invalid text: %d bytes, %d", len(got), e)
	}
	for _, s := range []string{xs(api.MaxText), xs(10 * api.MaxText), q + spaces(api.MaxText) + q, "A" + spaces(api.MaxText) + xs(api.MaxText)} {
		if got, e := Write(one(false, s)); got != "" || e != api.ErrLimit {
			t.Errorf("a text of %d bytes: %d bytes, %d", len(s), len(got), e)
		}
	}
	if got, e := Write(one(false, "A"+spaces(api.MaxText)+"B")); got != "000001     A"+spaces(60)+"\n000002     B\n" || e != api.OK {
		t.Errorf("a text of many spaces: %d bytes, %d", len(got), e)
	}
}

func TestWriteNumbers(t *testing.T) {
	l := make([]Line, 100001)
	for i := range l {
		l[i] = Line{true, "A"}
	}
	got, e := Write(l)
	rows := strings.Split(got, "\n")
	if e != api.OK || len(rows) != len(l)+1 || rows[len(l)] != "" {
		t.Fatalf("%d lines, %d", len(rows), e)
	}
	for number, want := range map[int]string{1: "000001 A", 9: "000009 A", 10: "000010 A", 999: "000999 A", 99999: "099999 A", 100000: "100000 A", 100001: "100001 A"} {
		if rows[number-1] != want {
			t.Errorf("line %d is %q", number, rows[number-1])
		}
	}
}

func TestWriteKeepsItsArgument(t *testing.T) {
	l := []Line{{true, xs(100) + " A"}, {false, "B"}}
	Write(l)
	if l[0] != (Line{true, xs(100) + " A"}) || l[1] != (Line{false, "B"}) {
		t.Errorf("%v", l)
	}
}
