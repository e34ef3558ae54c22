package columns

import (
	"reflect"
	"strings"
	"testing"

	"columnseven/api"
)

// at returns a line with an indicator and a text from a column on.
func at(indicator byte, column int, text string) string {
	return strings.Repeat(" ", 6) + string(indicator) + strings.Repeat(" ", column-8) + text
}

func lines(l ...string) string { return strings.Join(l, "\n") }

func pos(line, column int) api.Pos { return api.Pos{Line: line, Column: column} }

func fault(e api.Errno, line, column int) api.Fault { return api.Fault{E: e, At: pos(line, column)} }

func spaces(n int) string { return strings.Repeat(" ", n) }

// checkRead checks the cards of a source text.
func checkRead(t *testing.T, text string, debug bool, want ...Card) {
	t.Helper()
	got, f := Read(text, debug)
	if f != (api.Fault{}) {
		t.Errorf("%q, debug %t: %v", text, debug, f)
	}
	if len(got) != len(want) || len(got) > 0 && !reflect.DeepEqual(got, want) {
		t.Errorf("%q, debug %t: %+v", text, debug, got)
	}
}

// checkFault checks that a source text has a fault, and no cards.
func checkFault(t *testing.T, text string, debug bool, want api.Fault) {
	t.Helper()
	got, f := Read(text, debug)
	if got != nil || f != want {
		t.Errorf("%.200q, debug %t: %d cards, %v instead of %v", text, debug, len(got), f, want)
	}
}

func card(left bool, text string, marks ...Mark) Card {
	return Card{Left: left, Text: text, Marks: marks}
}

// P2.1

func TestReadExamples(t *testing.T) {
	checkRead(t, spaces(13)+"ADD 1", false, card(false, "ADD 1", Mark{0, pos(1, 14)}))
	checkRead(t, lines(spaces(7)+"MAIN", spaces(6)+"*NOTE"), false, card(true, "MAIN", Mark{0, pos(1, 8)}))
	checkRead(t, lines(spaces(11)+`A "B`, spaces(6)+"-"+spaces(4)+`"C"`), false,
		card(false, `A "B`+spaces(57)+`C"`, Mark{0, pos(1, 12)}, Mark{61, pos(2, 13)}))
	checkRead(t, lines(spaces(11)+"PERF", spaces(6)+"-"+spaces(4)+"ORM P"), false,
		card(false, "PERFORM P", Mark{0, pos(1, 12)}, Mark{4, pos(2, 12)}))
	checkFault(t, spaces(6)+"-"+spaces(4)+"X", false, fault(api.ErrState, 1, 7))
	checkFault(t, spaces(11)+`A "B`, false, fault(api.ErrForm, 1, 12))
}

func TestReadNothing(t *testing.T) {
	for _, s := range []string{"", "\n", "\n\n\n", "      ", "       ", "000100", "000100 ", spaces(80), "123456*\n123456/\n123456 \n", at('*', 8, `A "B`), at('/', 8, `A "B`), "123456-", at('-', 72, " ")} {
		checkRead(t, s, false)
		checkRead(t, s, true)
	}
}

func TestReadLineEnds(t *testing.T) {
	a, b := at(' ', 8, "A"), at(' ', 12, "B")
	ca := card(true, "A", Mark{0, pos(1, 8)})
	for _, s := range []string{a, a + "\n", a + "\n\n", a + "\n\n\n"} {
		checkRead(t, s, false, ca)
	}
	checkRead(t, lines(a, b), false, ca, card(false, "B", Mark{0, pos(2, 12)}))
	checkRead(t, lines("", a, "", "", b, ""), false, card(true, "A", Mark{0, pos(2, 8)}), card(false, "B", Mark{0, pos(5, 12)}))
	checkFault(t, a+"\n\x00", false, fault(api.ErrForm, 2, 1))
	checkFault(t, a+"\r\n"+b, false, fault(api.ErrForm, 1, 9))
}

func TestReadColumns(t *testing.T) {
	for column := 8; column <= 72; column++ {
		checkRead(t, at(' ', column, "X"), false, card(column < 12, "X", Mark{0, pos(1, column)}))
	}
	for column := 73; column <= 80; column++ {
		checkRead(t, at(' ', column, "X"), false)
	}
	checkRead(t, "ABC\"*- "+strings.Repeat("x", 65)+"ABC\"DEFG", false, card(true, strings.Repeat("x", 65), Mark{0, pos(1, 8)}))
	checkRead(t, "123456  "+"A  B"+spaces(68), false, card(true, "A  B", Mark{0, pos(1, 9)}))
	checkRead(t, at(' ', 71, "AB\"CD"), false, card(false, "AB", Mark{0, pos(1, 71)}))
}

// An indicator means the same whatever stands around it; only * / D d - and a space are indicators.
func TestReadIndicators(t *testing.T) {
	for c := byte(32); c <= 126; c++ {
		for _, debug := range []bool{false, true} {
			text := lines(at(' ', 8, "A"), at(c, 12, "B"))
			blank := lines(at(' ', 8, "A"), at(c, 12, "  "))
			short := lines(at(' ', 8, "A"), "123456"+string(c))
			a := card(true, "A", Mark{0, pos(1, 8)})
			b := card(false, "B", Mark{0, pos(2, 12)})
			switch {
			case c == '*', c == '/', (c == 'D' || c == 'd') && !debug:
				checkRead(t, text, debug, a)
			case c == ' ', c == 'D', c == 'd':
				checkRead(t, text, debug, a, b)
			case c == '-':
				checkRead(t, text, debug, card(true, "AB", Mark{0, pos(1, 8)}, Mark{1, pos(2, 12)}))
			default:
				checkFault(t, text, debug, fault(api.ErrForm, 2, 7))
				checkFault(t, blank, debug, fault(api.ErrForm, 2, 7))
				checkFault(t, short, debug, fault(api.ErrForm, 2, 7))
				continue
			}
			checkRead(t, blank, debug, a)
			checkRead(t, short, debug, a)
		}
	}
}

func TestReadDebuggingLines(t *testing.T) {
	text := lines(at('D', 8, "A"), at('-', 12, "B"))
	checkRead(t, text, true, card(true, "AB", Mark{0, pos(1, 8)}, Mark{1, pos(2, 12)}))
	checkFault(t, text, false, fault(api.ErrState, 2, 7))
	text = lines(at(' ', 12, "A"), at('d', 12, `B "`), at('-', 12, "C"))
	checkRead(t, text, false, card(false, "AC", Mark{0, pos(1, 12)}, Mark{1, pos(3, 12)}))
	checkFault(t, text, true, fault(api.ErrForm, 3, 12))
}

func TestReadContinuations(t *testing.T) {
	checkRead(t, lines(at(' ', 12, "PERF   "), at('-', 20, "ORM   "), at('-', 12, "P1 THRU   P2 ")), false,
		card(false, "PERFORMP1 THRU   P2", Mark{0, pos(1, 12)}, Mark{4, pos(2, 20)}, Mark{7, pos(3, 12)}))
	checkRead(t, lines(at(' ', 8, "A"), at('-', 12, "B"), at(' ', 8, "C"), at('-', 12, "D")), false,
		card(true, "AB", Mark{0, pos(1, 8)}, Mark{1, pos(2, 12)}), card(true, "CD", Mark{0, pos(3, 8)}, Mark{1, pos(4, 12)}))
	checkRead(t, lines(at(' ', 70, "ABCDE"), at('-', 72, "DE")), false, card(false, "ABCD", Mark{0, pos(1, 70)}, Mark{3, pos(2, 72)}))
	// A text that is not open is continued by a quote that belongs to it.
	checkRead(t, lines(at(' ', 12, `"A"`), at('-', 12, `"B"`)), false, card(false, `"A""B"`, Mark{0, pos(1, 12)}, Mark{3, pos(2, 12)}))
}

func TestReadIgnoredBetween(t *testing.T) {
	checkRead(t, lines(at(' ', 12, "A"), at('*', 8, "X"), "", at('-', 8, ""), at('/', 8, `"`), at('D', 8, "X"), at('-', 12, "B"), "", at('-', 12, "C")), false,
		card(false, "ABC", Mark{0, pos(1, 12)}, Mark{1, pos(7, 12)}, Mark{2, pos(9, 12)}))
	checkRead(t, lines(at(' ', 72, `"`), at('*', 8, "X"), "", at('-', 12, "  "), at('D', 8, `"`), at('-', 12, `"A"`)), false,
		card(false, `"A"`, Mark{0, pos(1, 72)}, Mark{1, pos(6, 13)}))
}

func TestReadOpenTexts(t *testing.T) {
	x := strings.Repeat("x", 60)
	// Full to column 72, with something behind it.
	checkRead(t, lines(at(' ', 12, `"`+x+"IGNORED"), at('-', 12, `"`+x+`"IGNORE`), at('-', 12, `"B" C  `)), false,
		card(false, `"`+x+x+`B" C`, Mark{0, pos(1, 12)}, Mark{61, pos(2, 13)}, Mark{121, pos(3, 13)}))
	// Padded, whether the line is short, or has spaces up to column 72 or beyond.
	for _, n := range []int{0, 50, 70, 72, 73, 80} {
		fill := func(s string) string { return s + spaces(max(n-len(s), 0)) }
		checkRead(t, lines(fill(at(' ', 8, `AB "CD`)), fill(at('-', 40, `" E`)), fill(at('-', 12, `"F"`))), false,
			card(true, `AB "CD`+spaces(59)+" E"+spaces(30)+`F"`, Mark{0, pos(1, 8)}, Mark{65, pos(2, 41)}, Mark{97, pos(3, 13)}))
	}
	// Spaces that begin the part of a continuation belong to it.
	checkRead(t, lines(at(' ', 72, `"`), at('-', 12, `"  A"`)), false, card(false, `"  A"`, Mark{0, pos(1, 72)}, Mark{1, pos(2, 13)}))
	// The quote that closes is the first character of the part.
	checkRead(t, lines(at(' ', 71, `"A`), at('-', 12, `"".`)), false, card(false, `"A".`, Mark{0, pos(1, 71)}, Mark{2, pos(2, 13)}))
	// Two quotes in one part leave it open or closed as it was.
	checkRead(t, lines(at(' ', 12, `"A""B" C`)), false, card(false, `"A""B" C`, Mark{0, pos(1, 12)}))
	checkRead(t, lines(at(' ', 70, `"""`), at('-', 70, `"""`), at('-', 12, `"A"`)), false,
		card(false, `"""""A"`, Mark{0, pos(1, 70)}, Mark{3, pos(2, 71)}, Mark{5, pos(3, 13)}))
	// What is open when one card ends does not open the next one.
	checkRead(t, lines(at(' ', 72, `"`), at('-', 12, `""`), at(' ', 12, "B"), at('-', 12, "C")), false,
		card(false, `""`, Mark{0, pos(1, 72)}, Mark{1, pos(2, 13)}), card(false, "BC", Mark{0, pos(3, 12)}, Mark{1, pos(4, 12)}))
}

// A continuation whose quote stands in column 72 has an empty part, and no Mark.
func TestReadEmptyPart(t *testing.T) {
	head := lines(at(' ', 71, `"A`), at('-', 72, `"`))
	checkRead(t, lines(head, at('-', 12, `"B"`)), false, card(false, `"AB"`, Mark{0, pos(1, 71)}, Mark{2, pos(3, 13)}))
	checkRead(t, lines(head+"IGNORED", at('-', 12, `"B"`)), false, card(false, `"AB"`, Mark{0, pos(1, 71)}, Mark{2, pos(3, 13)}))
	checkRead(t, lines(head, at('-', 72, q), at('-', 12, `"B"`)), false, card(false, `"AB"`, Mark{0, pos(1, 71)}, Mark{2, pos(4, 13)}))
}

// A part that is empty begins behind its quote, in column 73, and is the last one that was added, as any other.
func TestReadEmptyPartNotContinued(t *testing.T) {
	open, empty := at(' ', 12, `A "B`), at('-', 72, q)
	head := lines(open, empty)
	for _, next := range []string{"", "IGNORED", "\n", "\n\n", "\n" + at('*', 8, "X") + "\n", "\n" + at('-', 12, " "), "\n" + at('D', 12, "X"), "\n" + at(' ', 12, "MOVE"), "\n\n" + at(' ', 8, q), "\n" + at(' ', 12, "X") + "\n" + at('-', 12, `"C"`)} {
		checkFault(t, head+next, false, fault(api.ErrForm, 2, 73))
	}
	checkFault(t, lines(head, at('D', 12, "X")), true, fault(api.ErrForm, 2, 73))
	// Several of them, and one of them before or behind a part that is not empty.
	checkFault(t, lines(head, empty), false, fault(api.ErrForm, 3, 73))
	checkFault(t, lines(head, "", empty, at('/', 8, "X"), empty, "", at(' ', 12, "X")), false, fault(api.ErrForm, 6, 73))
	checkFault(t, lines(head, at('-', 71, `"X`)), false, fault(api.ErrForm, 3, 72))
	checkFault(t, lines(open, at('-', 71, `"X`), at('*', 8, "X"), empty), false, fault(api.ErrForm, 4, 73))
	// In a card behind others, also those that have such a part themselves.
	closed := lines(head, at('-', 12, `"C"`))
	checkFault(t, lines(closed, head), false, fault(api.ErrForm, 5, 73))
	checkFault(t, lines(closed, open), false, fault(api.ErrForm, 4, 12))
	// A line that continues it has its own faults, and the first ones of any line are found before.
	checkFault(t, lines(head, at('-', 20, "C")), false, fault(api.ErrForm, 3, 20))
	checkFault(t, lines(head, at('-', 11, `"C"`)), false, fault(api.ErrForm, 3, 11))
	checkFault(t, lines(head, at(' ', 12, "\x00")), false, fault(api.ErrForm, 3, 12))
	checkFault(t, lines(head, at('X', 12, "X")), false, fault(api.ErrForm, 3, 7))
}

func TestReadLimits(t *testing.T) {
	full := strings.Repeat(spaces(63)+"\n", api.MaxText/64)
	checkRead(t, full, false)
	checkFault(t, full+"\n", false, api.Fault{E: api.ErrLimit})
	checkFault(t, strings.Repeat("\x00", api.MaxText+1), false, api.Fault{E: api.ErrLimit})
	checkFault(t, strings.Repeat("x", api.MaxText), false, fault(api.ErrWidth, 1, 81))
	checkRead(t, strings.Repeat("\n", api.MaxText), false)
	checkRead(t, spaces(80), false)
	checkFault(t, spaces(81), false, fault(api.ErrWidth, 1, 81))
	checkFault(t, lines("", at('*', 8, spaces(100))), false, fault(api.ErrWidth, 2, 81))
	checkRead(t, at(' ', 80, "X")+"\n"+spaces(80), false)
}

func TestReadUnprintable(t *testing.T) {
	for c := range 256 {
		if 32 <= c && c <= 126 || c == '\n' {
			continue
		}
		b := string([]byte{byte(c)})
		for column := 1; column <= 80; column++ {
			checkFault(t, lines("", spaces(column-1)+(b + b)[:min(2, 81-column)]), false, fault(api.ErrForm, 2, column))
			if column > 7 {
				checkFault(t, lines("", at('*', column, b)), false, fault(api.ErrForm, 2, column))
				checkFault(t, lines("", at('D', column, b)), false, fault(api.ErrForm, 2, column))
			}
		}
	}
}

func TestReadNotContinued(t *testing.T) {
	open := at(' ', 14, `A "B`)
	for _, next := range []string{"", "\n", "\n\n" + at('*', 8, "X"), "\n" + at('-', 8, " "), "\n" + at('D', 12, "X"), "\n" + at(' ', 12, "X"), "\n\n" + at(' ', 12, `"`), "\n" + at(' ', 8, "X") + "\n" + at('-', 12, `"C"`)} {
		checkFault(t, open+next, false, fault(api.ErrForm, 1, 14))
	}
	checkFault(t, lines(open, at('D', 12, "X")), true, fault(api.ErrForm, 1, 14))
	// The part that was added last, not the first one.
	checkFault(t, lines("", open, at('-', 15, `"C`), at('*', 8, "X")), false, fault(api.ErrForm, 3, 16))
	checkFault(t, lines(at(' ', 12, "A"), at('-', 20, `B "`), at(' ', 12, "C")), false, fault(api.ErrForm, 2, 20))
}

func TestReadNothingToContinue(t *testing.T) {
	for _, before := range []string{"", at('*', 8, "X"), at('D', 8, "X"), at('-', 8, "")} {
		for _, s := range []string{"X", `"X"`, `"`} {
			for _, column := range []int{8, 11, 12, 72} {
				checkFault(t, lines(before, at('-', column, s)), false, fault(api.ErrState, 2, 7))
			}
		}
	}
}

func TestReadMalformedContinuations(t *testing.T) {
	for column := 8; column <= 11; column++ {
		checkFault(t, lines(at(' ', 8, "A"), at('-', column, "B")), false, fault(api.ErrForm, 2, column))
		checkFault(t, lines(at(' ', 8, `"A`), at('-', column, `"B"`)), false, fault(api.ErrForm, 2, column))
	}
	for column := 12; column <= 72; column++ {
		checkFault(t, lines(at(' ', 8, `"A`), at('-', column, `B"`)), false, fault(api.ErrForm, 2, column))
		checkFault(t, lines(at(' ', 8, `"A`), at('-', column, "'")), false, fault(api.ErrForm, 2, column))
	}
}

// In one line the faults are looked for in the order of the table, and the lines one after the other.
func TestReadOrderOfFaults(t *testing.T) {
	open := at(' ', 12, `"A`)
	long := at('X', 8, "\x00"+spaces(80))
	strange := at('X', 8, "\x00")
	for _, x := range []struct {
		text string
		want api.Fault
	}{
		{lines(open, long), fault(api.ErrWidth, 2, 81)},
		{lines(open, strange), fault(api.ErrForm, 2, 8)},
		{lines(open, at('X', 8, "A")), fault(api.ErrForm, 2, 7)},
		{lines(open, at('*', 8, "\x00")), fault(api.ErrForm, 2, 8)},
		{lines(open, "", "\x00"), fault(api.ErrForm, 3, 1)},
		{lines(open, at(' ', 12, "B"), "\x00"), fault(api.ErrForm, 1, 12)},
		{lines(open, at('-', 8, "B"), at(' ', 12, "B")), fault(api.ErrForm, 2, 8)},
		{lines(at('-', 8, "B"), long), fault(api.ErrState, 1, 7)},
		{lines(long, at('-', 8, "B")), fault(api.ErrWidth, 1, 81)},
		{lines(at('-', 8, "\x00"), long), fault(api.ErrForm, 1, 8)},
		{lines(at(' ', 8, "A"), strange, long), fault(api.ErrForm, 2, 8)},
		{lines("\x01      \x00"), fault(api.ErrForm, 1, 1)},
	} {
		checkFault(t, x.text, false, x.want)
	}
}

// A text of many continuations is longer than the source text.
func TestReadLongest(t *testing.T) {
	n := (api.MaxText - 13) / 13
	text := at(' ', 12, `"`) + "\n" + strings.Repeat(at('-', 12, `"`)+"\n", n-1) + at('-', 12, `""`)
	got, f := Read(text, false)
	if f != (api.Fault{}) || len(got) != 1 || len(got[0].Marks) != n+1 {
		t.Fatalf("%d cards, %v", len(got), f)
	}
	if want := `"` + spaces(60*n) + `"`; got[0].Text != want {
		t.Errorf("%d bytes instead of %d", len(got[0].Text), len(want))
	}
}

func TestReadSharesNoMemory(t *testing.T) {
	text := lines(at(' ', 12, "A"), at('-', 12, "B"), at('-', 12, "C"), at(' ', 12, "D"), at(' ', 12, "E"))
	a, _ := Read(text, false)
	b, _ := Read(text, false)
	if cap(a) != len(a) {
		t.Errorf("%d cards with a capacity of %d", len(a), cap(a))
	}
	for _, c := range a {
		if cap(c.Marks) != len(c.Marks) {
			t.Errorf("%d marks with a capacity of %d", len(c.Marks), cap(c.Marks))
		}
		c.Marks[0] = Mark{}
	}
	if b[0].Marks[0] != (Mark{0, pos(1, 12)}) || b[1].Marks[0] != (Mark{0, pos(4, 12)}) {
		t.Errorf("%+v", b)
	}
}
