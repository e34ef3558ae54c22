package copies

import (
	"reflect"
	"slices"
	"strconv"
	"strings"
	"testing"

	"columnseven/api"
	"columnseven/tokens"
)

// shelf returns members from names and texts: a name, its text, and so on. The first one stands in line 11, the second one in line 12.
func shelf(t *testing.T, texts ...string) []Member {
	t.Helper()
	var out []Member
	for i := 0; i < len(texts); i += 2 {
		out = append(out, Member{Name: texts[i], Tokens: inLine(t, 11+i/2, texts[i+1])})
	}
	return out
}

// checkExpand checks the tokens of a text in which members are inserted, and the names of these, separated by spaces.
func checkExpand(t *testing.T, members []Member, text, want, used string) {
	t.Helper()
	got, n, f := Expand(list(t, text), members)
	if f != (api.Fault{}) || !tokens.Same(got, list(t, want)) || strings.Join(n, " ") != used {
		t.Errorf("%s: %s, %q, %v instead of %s, %s", text, tokens.Text(got), n, f, want, used)
	}
	if len(got) != cap(got) || len(n) != cap(n) {
		t.Errorf("%s: %d tokens in a slice of %d, %d names in one of %d", text, len(got), cap(got), len(n), cap(n))
	}
}

// checkFault checks that a text in line 1 has a fault, and nothing else.
func checkFault(t *testing.T, members []Member, text string, want api.Fault) {
	t.Helper()
	got, n, f := Expand(list(t, text), members)
	if f != want || len(got) != 0 || len(n) != 0 {
		t.Errorf("%s: %d tokens, %q, %v instead of %v", text, len(got), n, f, want)
	}
}

// P4.2

func TestExpandExamples(t *testing.T) {
	l := shelf(t, "A", "05 X PIC 9(3).", "B", "01 R. COPY A REPLACING X BY Y.")
	checkExpand(t, l, "COPY A.", "05 X PIC 9(3).", "A")
	checkExpand(t, l, `COPY "B". MOVE`, "01 R. 05 Y PIC 9(3). MOVE", "B A")
	checkExpand(t, l, "COPY A REPLACING ==X PIC== BY ==Z PICTURE IS== 05 BY 10.", "10 Z PICTURE IS 9(3).", "A")
	checkFault(t, l, "COPY C.", fault(api.ErrNone, 1, 17))
	checkFault(t, l, "COPY A", fault(api.ErrForm, 1, 12))
	checkFault(t, l, "COPY A REPLACING X.", fault(api.ErrForm, 1, 30))
}

func TestExpandWithoutCopy(t *testing.T) {
	l := shelf(t, "A", "X", "COPY", "Y")
	for _, s := range []string{"", ".", "A", "MOVE A TO B. STOP RUN.", `"COPY" A.`, "PIC COPY", "COPYA A. COPY-A. A-COPY.", "REPLACING ==A== BY ==B==."} {
		checkExpand(t, l, s, s, "")
	}
	for _, x := range [][]api.Token{nil, {}, {tok(api.Word, "copy"), {}}, {tok(api.Word, "COPY "), {}}, {tok(0, "COPY"), tok(99, "COPY")}, many(api.MaxTokens+1, "A")} {
		got, n, f := Expand(x, nil)
		if f != (api.Fault{}) || !tokens.Same(got, x) || len(n) != 0 {
			t.Errorf("%.100v: %.100v, %v, %v", x, got, n, f)
		}
	}
}

func TestNamesOfMembers(t *testing.T) {
	l := shelf(t, "A", "1", "B-1", "2", "a", "3", "x y", "4", "", "5", "COPY", "6", "REPLACING", "7", "BY", "8", "A", "9", "PIC", "10", "07", "11")
	for name, want := range map[string]string{
		"A": "1", "a": "1", "b-1": "2", `"A"`: "1", `"a"`: "3", `"x y"`: "4", `"B-1"`: "2",
		"COPY": "6", "REPLACING": "7", "BY": "8", `"COPY"`: "6", "A REPLACING 1 BY 9": "9", "REPLACING REPLACING 7 BY 8": "8", `"PIC"`: "10", `"07"`: "11",
	} {
		got, n, f := Expand(list(t, "COPY "+name+"."), l)
		if f != (api.Fault{}) || tokens.Text(got) != want || len(n) != 1 {
			t.Errorf("%s: %v, %q, %v", name, got, n, f)
		}
	}
	got, n, f := Expand([]api.Token{tok(api.Word, "COPY"), tok(api.Quote, ""), tok(api.Period, "")}, l)
	if f != (api.Fault{}) || tokens.Text(got) != "5" || !slices.Equal(n, []string{""}) {
		t.Errorf("%v, %q, %v", got, n, f)
	}
	for _, name := range []string{"B", "AA", `"A "`, `"b-1"`, `"X Y"`} {
		checkFault(t, l, "COPY "+name+".", fault(api.ErrNone, 1, 17))
	}
}

func TestExpandMembersInMembers(t *testing.T) {
	l := shelf(t,
		"E", "",
		"A", "1",
		"B", "2 COPY A. 3",
		"C", "COPY B. 4 COPY A. COPY E. COPY B.",
		"D", "COPY E. COPY C.")
	checkExpand(t, l, "COPY E.", "", "E")
	checkExpand(t, l, "X COPY E. Y", "X Y", "E")
	checkExpand(t, l, "COPY E. COPY E.", "", "E")
	checkExpand(t, l, "COPY A. COPY A.", "1 1", "A")
	checkExpand(t, l, "X. COPY A. Y. COPY B. Z.", "X. 1 Y. 2 1 3 Z.", "A B")
	checkExpand(t, l, "COPY B. COPY A.", "2 1 3 1", "B A")
	checkExpand(t, l, "COPY C.", "2 1 3 4 1 2 1 3", "C B A E")
	checkExpand(t, l, `COPY D. COPY "A". COPY "D".`, "2 1 3 4 1 2 1 3 1 2 1 3 4 1 2 1 3", "D E C B A")
	checkExpand(t, l, "COPY A. COPY D.", "1 2 1 3 4 1 2 1 3", "A D E C B")
}

func TestExpandReplacing(t *testing.T) {
	l := shelf(t,
		"A", `05 X PIC 9(3). 07 "X" ( +`,
		"B", "A B A B A",
		"P", "X. Y.",
		"W", "COPY B REPLACING A BY 1. X 2",
		"N", "COPY A REPLACING X BY ==COPY Y. ==.")
	checkExpand(t, l, "COPY A REPLACING X BY Y.", `05 Y PIC 9(3). 07 "X" ( +`, "A")
	checkExpand(t, l, `COPY A REPLACING "X" BY X 07 BY "Z" X BY 8.`, `05 8 PIC 9(3). "Z" X ( +`, "A")
	checkExpand(t, l, "COPY A REPLACING ==PIC 9(3) == BY ==PIC X == ==( +== BY == ==.", `05 X PIC X. 07 "X"`, "A")
	checkExpand(t, l, "COPY B REPLACING A BY B B BY A.", "B A B A B", "B")
	checkExpand(t, l, "COPY B REPLACING ==A B A== BY X A BY ==Y Z== B BY ====.", "X Y Z", "B")
	checkExpand(t, l, "COPY P REPLACING ==. == BY ==. . == X BY ==Z. ==.", "Z. . . Y. .", "P")
	checkExpand(t, l, "COPY P REPLACING ==X. Y== BY ==A BY B REPLACING COPY==.", "A BY B REPLACING COPY.", "P")
	// The replacements of a statement are performed behind those within its member, but not on its COPY statements.
	checkExpand(t, l, "COPY W REPLACING 1 BY 2 2 BY 3 B BY C A BY Z.", "2 C 2 C 2 X 3", "W B")
	checkExpand(t, l, "COPY W REPLACING COPY BY X ==COPY B== BY ==COPY C==.", "1 B 1 B 1 X 2", "W B")
	checkExpand(t, l, "COPY N REPLACING COPY BY ==Z Z==.", `05 Z Z Y. PIC 9(3). 07 "X" ( +`, "N A")
	// What a replacement puts in is not searched, but a statement that follows is performed.
	checkExpand(t, l, "COPY P REPLACING X BY ==COPY A. ==. COPY B.", "COPY A. . Y. A B A B A", "P B")
	checkExpand(t, l, "COPY N.", `05 COPY Y. PIC 9(3). 07 "X" ( +`, "N A")
	// The replacements of a statement have no effect elsewhere.
	checkExpand(t, l, "A COPY B REPLACING A BY X. A COPY B. A", "A X B X B X A A B A B A A", "B")
}

func TestOperands(t *testing.T) {
	l := shelf(t, "M", "BY 1 REPLACING -2.5 COPY-1")
	checkExpand(t, l, "COPY M REPLACING BY BY BY.", "BY 1 REPLACING -2.5 COPY-1", "M")
	checkExpand(t, l, "COPY M REPLACING BY BY X REPLACING BY BY COPY-1 BY REPLACING.", "X 1 BY -2.5 REPLACING", "M")
	checkExpand(t, l, `COPY M REPLACING -2.5 BY "." 1 BY COPY.`, `BY COPY REPLACING "." COPY-1`, "M")
	checkExpand(t, l, "COPY M REPLACING ==BY== BY 2 ==1== BY ==BY== REPLACING BY X, -2.5 BY ==PIC X(2) ==; COPY-1 BY ====.", "2 BY X PIC X(2)", "M")
	checkExpand(t, l, "COPY M REPLACING ==COPY X. BY== BY ==1==.", "BY 1 REPLACING -2.5 COPY-1", "M")
	odd := []api.Token{tok(0, "?"), tok(api.Sign, "+"), tok(99, "")}
	text := slices.Concat(list(t, "COPY O REPLACING =="), odd[:1], list(t, "== BY =="), odd[2:], list(t, "==."))
	got, n, f := Expand(text, []Member{{Name: "O", Tokens: odd}})
	if f != (api.Fault{}) || !reflect.DeepEqual(got, []api.Token{odd[2], odd[1], odd[2]}) || !slices.Equal(n, []string{"O"}) {
		t.Errorf("%v, %q, %v", got, n, f)
	}
}

func TestExpandKeepsPositions(t *testing.T) {
	l := shelf(t, "A", "05 X.", "B", "COPY A REPLACING X BY ==Y Z==.")
	l[0].Tokens[0].Left = true
	got, _, f := Expand(list(t, "COPY B REPLACING Z BY W. MOVE"), l)
	want := []api.Token{
		{Kind: api.Number, Text: "05", At: pos(11, 12), Left: true},
		{Kind: api.Word, Text: "Y", At: pos(12, 36)},
		{Kind: api.Word, Text: "W", At: pos(1, 34)},
		{Kind: api.Period, Text: ".", At: pos(11, 16)},
		{Kind: api.Word, Text: "MOVE", At: pos(1, 37)},
	}
	if f != (api.Fault{}) || !reflect.DeepEqual(got, want) {
		t.Errorf("%+v, %v", got, f)
	}
}

func TestExpandKeepsNoMemory(t *testing.T) {
	texts := []string{"A", "05 X.", "B", "1 COPY A REPLACING X BY ==Y Z==. 2", "A", "9"}
	text := "A COPY B REPLACING 1 BY 3. B COPY A."
	l, m := list(t, text), shelf(t, texts...)
	got, n, f := Expand(l, m)
	if f != (api.Fault{}) || len(n) != 2 {
		t.Fatal(n, f)
	}
	for i := range got {
		got[i].Text = "?"
	}
	n[0] = "?"
	if !reflect.DeepEqual(l, list(t, text)) || !reflect.DeepEqual(m, shelf(t, texts...)) {
		t.Errorf("%v, %v", l, m)
	}
	plain := many(3, "A")
	got, _, _ = Expand(plain, m)
	got[0].Text = "?"
	if plain[0].Text != "A" {
		t.Errorf("%v", plain)
	}
}

// chain returns members M1 to Mn, of which each one copies the next one, and the last one has the given text.
func chain(t *testing.T, n int, last string) []Member {
	t.Helper()
	var out []Member
	for i := 1; i <= n; i++ {
		text := "1 COPY M" + strconv.Itoa(i+1) + ". 2"
		if i == n {
			text = last
		}
		out = append(out, shelf(t, "M"+strconv.Itoa(i), text)...)
		for j := range out[i-1].Tokens {
			out[i-1].Tokens[j].At.Line = 100 + i
		}
	}
	return out
}

func TestNestedMembers(t *testing.T) {
	l := chain(t, api.MaxCopy, "X")
	checkExpand(t, l, "COPY M1.", strings.Repeat("1 ", api.MaxCopy-1)+"X "+strings.Repeat("2 ", api.MaxCopy-1), "M1 M2 M3 M4 M5 M6 M7 M8")
	l = chain(t, api.MaxCopy+1, "X")
	checkFault(t, l, "COPY M1.", fault(api.ErrLimit, 108, 19))
	checkFault(t, l, "COPY M2. COPY M1. COPY NONE.", fault(api.ErrLimit, 108, 19))
	// What is missing, or a loop, is found first.
	checkFault(t, chain(t, api.MaxCopy, "1 COPY NONE."), "COPY M1.", fault(api.ErrNone, 108, 19))
	checkFault(t, chain(t, api.MaxCopy, "1 COPY M1."), "COPY M1.", fault(api.ErrLoop, 108, 19))
	checkFault(t, chain(t, api.MaxCopy, "1 COPY M8."), "COPY M1.", fault(api.ErrLoop, 108, 19))
	checkFault(t, chain(t, api.MaxCopy, "1 COPY ."), "COPY M1.", fault(api.ErrForm, 108, 19))
	// Members that have been expanded do not count.
	l = append(chain(t, api.MaxCopy-1, "COPY M8. COPY M9. COPY M8."), shelf(t, "M8", "X", "M9", "Y")...)
	checkExpand(t, l, "COPY M1.", "1 1 1 1 1 1 X Y X 2 2 2 2 2 2", "M1 M2 M3 M4 M5 M6 M7 M8 M9")
}

func TestLoops(t *testing.T) {
	l := shelf(t, "A", "X COPY A.", "B", "COPY C. COPY E.", "C", "COPY D.", "D", "1 COPY B.", "E", "", "F", "COPY E. COPY G.", "G", `COPY E. COPY "F" REPLACING X BY Y.`)
	checkFault(t, l, "COPY A.", fault(api.ErrLoop, 11, 19))
	checkFault(t, l, "COPY E. COPY A.", fault(api.ErrLoop, 11, 19))
	checkFault(t, l, "COPY B.", fault(api.ErrLoop, 14, 19))
	checkFault(t, l, "COPY C.", fault(api.ErrLoop, 12, 17))
	checkFault(t, l, "COPY D.", fault(api.ErrLoop, 13, 17))
	checkFault(t, l, "COPY F.", fault(api.ErrLoop, 17, 25))
	// Only the first member with a name is expanded.
	checkFault(t, shelf(t, "A", "COPY B.", "B", "COPY A.", "A", "X"), "COPY A.", fault(api.ErrLoop, 12, 17))
	checkExpand(t, shelf(t, "A", "COPY B.", "B", "X", "B", "COPY A."), "COPY A. COPY A.", "X X", "A B")
}

func TestLimitOfCopies(t *testing.T) {
	l := shelf(t, "E", "", "T", "COPY E. COPY E. COPY E.", "X", "X")
	copies := func(n int, name string) []api.Token {
		return slices.Repeat([]api.Token{tok(api.Word, "COPY"), {Kind: api.Word, Text: name, At: pos(n, 9)}, tok(api.Period, ".")}, n)
	}
	end := inLine(t, 5, "COPY X.")
	for _, x := range []struct {
		l    []api.Token
		want int // tokens
		f    api.Fault
	}{
		{copies(MaxCopies, "E"), 0, api.Fault{}},
		{copies(MaxCopies, "X"), MaxCopies, api.Fault{}},
		{copies(MaxCopies+1, "E"), 0, fault(api.ErrLimit, MaxCopies+1, 9)},
		{append(copies(MaxCopies-1, "E"), end...), 1, api.Fault{}},
		{append(copies(MaxCopies, "E"), end...), 0, fault(api.ErrLimit, 5, 17)},
		// Each statement for T performs three others.
		{copies(MaxCopies/4, "T"), 0, api.Fault{}},
		{append(copies(MaxCopies/4, "T"), end...), 0, fault(api.ErrLimit, 5, 17)},
		{append(copies(MaxCopies/4-1, "T"), copies(3, "X")...), 3, api.Fault{}},
		{append(copies(MaxCopies/4-1, "T"), append(copies(3, "X"), inLine(t, 5, "COPY T.")...)...), 0, fault(api.ErrLimit, 12, 17)},
		{append(copies(MaxCopies/4-1, "T"), append(copies(1, "X"), inLine(t, 5, "COPY T.")...)...), 0, fault(api.ErrLimit, 12, 33)},
		{append(copies(MaxCopies, "E"), inLine(t, 5, "COPY NONE.")...), 0, fault(api.ErrNone, 5, 17)},
		{append(copies(MaxCopies, "E"), inLine(t, 5, "COPY X")...), 0, fault(api.ErrForm, 5, 12)},
	} {
		got, n, f := Expand(x.l, l)
		if f != x.f || len(got) != x.want || f.E != api.OK && len(n) != 0 {
			t.Errorf("%d tokens: %d tokens, %q, %v instead of %d, %v", len(x.l), len(got), n, f, x.want, x.f)
		}
	}
}

func TestLimitOfTokens(t *testing.T) {
	l := append(shelf(t, "E", "", "X", "X", "Y", "Y Y", "IN", "COPY BIG.", "TWO", "COPY BIG. COPY X.", "TAIL", "COPY BIG. X"),
		Member{Name: "BIG", Tokens: many(api.MaxTokens, "X")},
		Member{Name: "HALF", Tokens: many(api.MaxTokens/2, "X")},
		Member{Name: "HUGE", Tokens: many(api.MaxTokens+1, "X")})
	for _, x := range []struct {
		text string
		want int // tokens
		f    api.Fault
	}{
		{"COPY BIG.", api.MaxTokens, api.Fault{}},
		{"COPY IN.", api.MaxTokens, api.Fault{}},
		{"COPY BIG REPLACING Z BY ==Z Z==.", api.MaxTokens, api.Fault{}},
		{"COPY HALF REPLACING X BY ==X X==.", api.MaxTokens, api.Fault{}},
		{"COPY HALF. COPY HALF.", api.MaxTokens, api.Fault{}},
		// the member, before its replacements or behind them
		{"COPY HUGE.", 0, fault(api.ErrLimit, 1, 17)},
		{"COPY HUGE REPLACING X BY ====.", 0, fault(api.ErrLimit, 1, 17)},
		{"COPY BIG REPLACING X BY ==X X==.", 0, fault(api.ErrLimit, 1, 17)},
		{"COPY HALF REPLACING X BY ==X X X==.", 0, fault(api.ErrLimit, 1, 17)},
		{"COPY IN REPLACING X BY ====.", 0, api.Fault{}},
		// the list, in front of the statement and behind it
		{"X COPY BIG.", 0, fault(api.ErrLimit, 1, 19)},
		{"COPY BIG. X", 0, fault(api.ErrLimit, 1, 17)},
		{"COPY HALF. X COPY HALF.", 0, fault(api.ErrLimit, 1, 30)},
		{"COPY HALF. COPY HALF. X", 0, fault(api.ErrLimit, 1, 28)},
		{"COPY HALF. COPY E. COPY HALF.", api.MaxTokens, api.Fault{}},
		{"COPY HALF. COPY HALF REPLACING X BY ====. X", api.MaxTokens/2 + 1, api.Fault{}},
		{"X COPY BIG REPLACING X BY ==== Y BY X.", 1, api.Fault{}},
		// the list that is a member
		{"COPY TWO.", 0, fault(api.ErrLimit, 15, 17)},
		{"COPY TAIL.", 0, fault(api.ErrLimit, 16, 17)},
		{"COPY TAIL REPLACING X BY ====.", 0, fault(api.ErrLimit, 16, 17)},
		{"COPY X. COPY IN.", 0, fault(api.ErrLimit, 1, 25)},
		// Faults of statements that are met before come first, those of statements behind do not.
		{"COPY NONE. COPY HUGE.", 0, fault(api.ErrNone, 1, 17)},
		{"COPY HUGE. COPY NONE.", 0, fault(api.ErrLimit, 1, 17)},
		{"COPY HUGE. COPY", 0, fault(api.ErrLimit, 1, 17)},
	} {
		got, n, f := Expand(list(t, x.text), l)
		if f != x.f || len(got) != x.want || f.E != api.OK && len(n) != 0 {
			t.Errorf("%s: %d tokens, %q, %v instead of %d, %v", x.text, len(got), n, f, x.want, x.f)
		}
	}
	// A list that is too long before any member is inserted can only get shorter.
	for n, e := range map[int]api.Errno{api.MaxTokens - 1: api.OK, api.MaxTokens: api.ErrLimit} {
		for _, text := range [][]api.Token{append(many(n, "Z"), list(t, "COPY X.")...), append(list(t, "COPY X."), many(n, "Z")...)} {
			if got, _, f := Expand(text, l); f.E != e || e == api.OK && len(got) != n+1 {
				t.Errorf("%d tokens, and one: %d, %v", n, len(got), f)
			}
		}
	}
	if got, _, f := Expand(append(list(t, "COPY E."), many(api.MaxTokens, "Z")...), l); f != (api.Fault{}) || len(got) != api.MaxTokens {
		t.Errorf("%d tokens, %v", len(got), f)
	}
}
