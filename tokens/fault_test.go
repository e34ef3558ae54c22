package tokens

import (
	"math"
	"reflect"
	"slices"
	"strings"
	"testing"

	"columnseven/api"
	"columnseven/columns"
)

// P3.1: positions, the order of faults, and source texts

func TestPositions(t *testing.T) {
	// The word MOVE is continued in line 3, the literal in line 5, which begins in area A.
	text := `A MOVE "B C" -1`
	c := columns.Card{Text: text, Marks: []columns.Mark{{From: 0, At: pos(1, 10)}, {From: 4, At: pos(3, 13)}, {From: 8, At: pos(5, 8)}}}
	got, f := Scan([]columns.Card{c})
	want := []api.Token{
		{Kind: api.Word, Text: "A", At: pos(1, 10), Left: true},
		{Kind: api.Word, Text: "MOVE", At: pos(1, 12)},
		{Kind: api.Quote, Text: "B C", At: pos(3, 16)},
		{Kind: api.Number, Text: "-1", At: pos(5, 13)},
	}
	if f != (api.Fault{}) || !reflect.DeepEqual(got, want) {
		t.Errorf("%+v, %v", got, f)
	}
}

func TestLeft(t *testing.T) {
	for column := 8; column <= 20; column++ {
		for _, s := range []string{"A", "1", `"A"`, ".", "==", "(", " A", "=A"} {
			c := columns.Card{Text: s, Marks: []columns.Mark{{From: 0, At: pos(7, column)}}}
			got, f := Scan([]columns.Card{c})
			if f != (api.Fault{}) || len(got) == 0 {
				t.Fatalf("%q: %v, %v", s, got, f)
			}
			for _, x := range got {
				if x.Left != (x.At.Column < 12) || x.At.Line != 7 {
					t.Errorf("%q from column %d: %+v", s, column, got)
				}
			}
			if first := column + len(s) - len(strings.TrimLeft(s, " ")); got[0].At.Column != first {
				t.Errorf("%q from column %d: %+v", s, column, got)
			}
		}
	}
	// What the card says of itself does not matter.
	got, _ := Scan([]columns.Card{{Left: true, Text: "A", Marks: []columns.Mark{{At: pos(1, 12)}}}, {Text: "A", Marks: []columns.Mark{{At: pos(1, 11)}}}})
	if len(got) != 2 || got[0].Left || !got[1].Left {
		t.Errorf("%+v", got)
	}
}

// Each byte of a card is a token here, and most have a Mark of their own.
func TestPositionsAreThoseOfCards(t *testing.T) {
	c := columns.Card{Text: strings.Repeat("(", 200)}
	for i := range 200 {
		if i%7 != 3 {
			c.Marks = append(c.Marks, columns.Mark{From: i, At: pos(1000-i, 8+i*5%65)})
		}
	}
	c.Marks[5].At.Line = math.MaxInt
	got, f := Scan([]columns.Card{c})
	if f != (api.Fault{}) || len(got) != 200 {
		t.Fatalf("%d tokens, %v", len(got), f)
	}
	for i, x := range got {
		if want, _ := columns.At(c, i); x.At != want || x.Left != (want.Column < 12) {
			t.Errorf("%+v instead of %v", x, want)
		}
	}
}

func TestInvalidCards(t *testing.T) {
	good := columns.Mark{At: pos(1, 12)}
	for _, bad := range []columns.Card{
		{},
		{Text: "A"},
		{Marks: []columns.Mark{good}},
		{Text: "A", Marks: []columns.Mark{{From: 1, At: pos(1, 12)}}},
		{Text: "AB", Marks: []columns.Mark{good, good}},
		{Text: "AB", Marks: []columns.Mark{good, {From: 2, At: pos(2, 12)}}},
		{Text: "AB", Marks: []columns.Mark{good, {From: math.MinInt, At: pos(2, 12)}}},
		{Text: "A", Marks: []columns.Mark{{At: pos(0, 12)}}},
		{Text: "A", Marks: []columns.Mark{{At: pos(1, 7)}}},
		{Text: "A", Marks: []columns.Mark{{At: pos(1, 73)}}},
		{Text: "A", Marks: []columns.Mark{{At: pos(1, math.MaxInt)}}},
		{Text: `?"A-`},
	} {
		wrong := api.Fault{E: api.ErrArg}
		checkFault(t, wrong, bad)
		checkFault(t, wrong, card(1, "A"), bad)
		checkFault(t, wrong, bad, card(1, "?"))
		checkFault(t, fault(api.ErrForm, 1, 13), card(1, "A?"), bad)
		checkFault(t, fault(api.ErrForm, 1, 12), card(1, "A-"), bad)
	}
}

func TestFirstFault(t *testing.T) {
	long := strings.Repeat("A", api.MaxName+1)
	checkFault(t, fault(api.ErrWidth, 1, 12), cards(long+" A- ?", "?")...)
	checkFault(t, fault(api.ErrForm, 2, 14), cards("A B", "A ? "+long, long)...)
	checkFault(t, fault(api.ErrForm, 1, 14), cards(`A "B`, "?")...)
	checkFault(t, fault(api.ErrForm, 3, 20), columns.Card{Text: "AB CD ?", Marks: []columns.Mark{{At: pos(2, 70)}, {From: 3, At: pos(3, 17)}}})
}

func TestLimitOfTokens(t *testing.T) {
	full := cards(strings.TrimSpace(strings.Repeat("A ", api.MaxTokens-1)), "B")
	got, f := Scan(full)
	if f != (api.Fault{}) || len(got) != api.MaxTokens {
		t.Fatalf("%d tokens, %v", len(got), f)
	}
	with := func(text string) []columns.Card { return append(slices.Clip(full), card(3, text)) }
	if got, f := Scan(with(" , ;")); f != (api.Fault{}) || len(got) != api.MaxTokens {
		t.Errorf("%d tokens, %v", len(got), f)
	}
	for s, e := range map[string]api.Errno{
		"A": api.ErrLimit, ".": api.ErrLimit, "==": api.ErrLimit, "1": api.ErrLimit, `"A"`: api.ErrLimit, "(": api.ErrLimit, "A ?": api.ErrLimit,
		"?": api.ErrForm, "A-": api.ErrForm, `""`: api.ErrForm, `"A`: api.ErrForm, "1.5A": api.ErrForm,
		strings.Repeat("A", 31): api.ErrWidth, strings.Repeat("1", 19): api.ErrWidth,
	} {
		checkFault(t, fault(e, 3, 12), with(s)...)
	}
	checkFault(t, fault(api.ErrLimit, 3, 14), with(", A")...)
	checkFault(t, api.Fault{E: api.ErrArg}, append(slices.Clip(full), columns.Card{Text: "A"})...)
	checkFault(t, fault(api.ErrLimit, 3, 12), append(with("A"), columns.Card{})...)
	checkFault(t, fault(api.ErrLimit, 1, 12+2*api.MaxTokens), card(1, strings.Repeat("( ", api.MaxTokens+9)))
}

func TestScanKeepsNoMemory(t *testing.T) {
	make := func() []columns.Card {
		return []columns.Card{{Text: "A PIC X", Marks: []columns.Mark{{At: pos(1, 8)}, {From: 1, At: pos(2, 12)}, {From: 5, At: pos(3, 12)}}}, card(4, "B.")}
	}
	l := make()
	got, f := Scan(l)
	if f != (api.Fault{}) || !reflect.DeepEqual(l, make()) {
		t.Errorf("%v, %+v", f, l)
	}
	again, _ := Scan(l)
	got[0].Text = "C"
	if again[0].Text != "A" || len(got) != cap(got) {
		t.Errorf("%v, %v of %d", again, got, cap(got))
	}
}

func TestSource(t *testing.T) {
	text := "000100 MAIN.\n000110*    NOTE\n           MOVE \"A\n      -    \"B\" TO X-\n      -    1, Y.\n      D    STOP RUN.\n"
	got, f := Source(text, false)
	want := []api.Token{
		{Kind: api.Word, Text: "MAIN", At: pos(1, 8), Left: true},
		{Kind: api.Period, Text: ".", At: pos(1, 12)},
		{Kind: api.Word, Text: "MOVE", At: pos(3, 12)},
		{Kind: api.Quote, Text: "A" + spaces(54) + "B", At: pos(3, 17)},
		{Kind: api.Word, Text: "TO", At: pos(4, 16)},
		{Kind: api.Word, Text: "X-1", At: pos(4, 19)},
		{Kind: api.Word, Text: "Y", At: pos(5, 15)},
		{Kind: api.Period, Text: ".", At: pos(5, 16)},
	}
	if f != (api.Fault{}) || !reflect.DeepEqual(got, want) || len(got) != cap(got) {
		t.Errorf("%+v, %v", got, f)
	}
	got, f = Source(text, true)
	want = append(want, api.Token{Kind: api.Word, Text: "STOP", At: pos(6, 12)}, api.Token{Kind: api.Word, Text: "RUN", At: pos(6, 17)}, api.Token{Kind: api.Period, Text: ".", At: pos(6, 20)})
	if f != (api.Fault{}) || !reflect.DeepEqual(got, want) {
		t.Errorf("with debugging lines: %+v, %v", got, f)
	}
	for _, s := range []string{"", "\n", "      *A", "000100", "           ,"} {
		if got, f := Source(s, true); len(got) != 0 || f != (api.Fault{}) {
			t.Errorf("%q: %v, %v", s, got, f)
		}
	}
}

func TestSourceOfPeriodsAndPseudos(t *testing.T) {
	// The second Pseudo is divided between two lines.
	got, f := Source("       .\n           ==A=\n      -      = PIC X.\n", false)
	want := []api.Token{
		{Kind: api.Period, Text: ".", At: pos(1, 8), Left: true},
		{Kind: api.Pseudo, Text: "==", At: pos(2, 12)},
		{Kind: api.Word, Text: "A", At: pos(2, 14)},
		{Kind: api.Pseudo, Text: "==", At: pos(2, 15)},
		{Kind: api.Word, Text: "PIC", At: pos(3, 16)},
		{Kind: api.Picture, Text: "X", At: pos(3, 20)},
		{Kind: api.Period, Text: ".", At: pos(3, 21)},
	}
	if f != (api.Fault{}) || !reflect.DeepEqual(got, want) {
		t.Errorf("%+v, %v", got, f)
	}
}

func TestSourceFaults(t *testing.T) {
	for _, x := range []struct {
		text string
		want api.Fault
	}{
		{strings.Repeat(" ", 81), fault(api.ErrWidth, 1, 81)},
		{"           A\tB", fault(api.ErrForm, 1, 13)},
		{"      X", fault(api.ErrForm, 1, 7)},
		{"      -    A", fault(api.ErrState, 1, 7)},
		{strings.Repeat("\n", api.MaxText+1), api.Fault{E: api.ErrLimit}},
		{"           A \"B\n           C", fault(api.ErrForm, 1, 12)},
		// All lines are read before the first token is.
		{"           A-\n      -    ?\n      X", fault(api.ErrForm, 3, 7)},
		{"           A\n           B \"\"", fault(api.ErrForm, 2, 14)},
		{"           A-\n      *\n      -    B-.", fault(api.ErrForm, 1, 12)},
		{"           A.\n      -    B", fault(api.ErrForm, 1, 13)},
		{"           AAAAAAAAAAAAAAAA\n      -    AAAAAAAAAAAAAAA", fault(api.ErrWidth, 1, 12)},
		{"      D    ?\n           !", fault(api.ErrForm, 2, 12)},
		{strings.Repeat("           A A A A A A A A A A A A A A A A\n", 4096) + "       B\n", fault(api.ErrLimit, 4097, 8)},
	} {
		if got, f := Source(x.text, false); len(got) != 0 || f != x.want {
			t.Errorf("%.100q: %.100s, %v instead of %v", x.text, show(got), f, x.want)
		}
	}
	if got, f := Source("      D    ?\n           !", true); len(got) != 0 || f != fault(api.ErrForm, 1, 12) {
		t.Errorf("%s, %v", show(got), f)
	}
}
