package tokens

import (
	"slices"
	"strings"
	"testing"

	"columnseven/api"
	"columnseven/columns"
)

var kinds = map[api.Kind]string{api.Word: "Word", api.Number: "Number", api.Quote: "Quote", api.Picture: "Picture", api.Sign: "Sign", api.Period: "Period", api.Pseudo: "Pseudo"}

// The only texts that tokens of these kinds have.
var onlyTexts = map[api.Kind]string{api.Period: ".", api.Pseudo: "=="}

// show lists tokens: their kinds, and their texts unless they are the only ones of their kinds, separated by bars.
func show(l []api.Token) string {
	var out []string
	for _, t := range l {
		s := kinds[t.Kind]
		if t.Text != onlyTexts[t.Kind] {
			s += " " + t.Text
		}
		out = append(out, s)
	}
	return strings.Join(out, "|")
}

func pos(line, column int) api.Pos { return api.Pos{Line: line, Column: column} }

func fault(e api.Errno, line, column int) api.Fault { return api.Fault{E: e, At: pos(line, column)} }

func spaces(n int) string { return strings.Repeat(" ", n) }

// card returns a card that begins in column 12 of a line.
func card(line int, text string) columns.Card {
	return columns.Card{Text: text, Marks: []columns.Mark{{From: 0, At: pos(line, 12)}}}
}

// cards returns a card for each text, in a line of its own.
func cards(texts ...string) []columns.Card {
	var out []columns.Card
	for i, s := range texts {
		out = append(out, card(i+1, s))
	}
	return out
}

// checkScan checks the tokens of cards with these texts.
func checkScan(t *testing.T, want string, texts ...string) {
	t.Helper()
	got, f := Scan(cards(texts...))
	if f != (api.Fault{}) || show(got) != want {
		t.Errorf("%q: %s, %v instead of %s", texts, show(got), f, want)
	}
	if len(got) != cap(got) {
		t.Errorf("%q: %d tokens in a slice of %d", texts, len(got), cap(got))
	}
}

// checkFault checks that cards have a fault, and no tokens.
func checkFault(t *testing.T, want api.Fault, l ...columns.Card) {
	t.Helper()
	got, f := Scan(l)
	if f != want || len(got) != 0 {
		t.Errorf("%.300v: %.300s, %v instead of %v", l, show(got), f, want)
	}
}

// checkBad checks that the byte of a card's text with an index begins a token with an error.
func checkBad(t *testing.T, e api.Errno, text string, i int) {
	t.Helper()
	checkFault(t, fault(e, 1, 12+i), card(1, text))
}

// P3.1

func TestScanExamples(t *testing.T) {
	checkScan(t, "Word MOVE|Number -1.50|Word TO|Word A-1|Word B|Sign (|Number 2|Sign )|Period", "move -1.50 to A-1, b(2).")
	checkScan(t, "Number 05|Word X|Word PIC|Picture 9(3)V99|Period", "05 X PIC 9(3)v99.")
	checkScan(t, `Word A|Sign -|Number 1|Sign **|Number .5|Sign <=|Quote B"C`, `A - 1 ** .5 <= "B""C"`)
	checkScan(t, "Pseudo|Word 1A|Pseudo|Word BY|Number 7|Period", "==1A== BY 7.")
	checkBad(t, api.ErrForm, "A-", 0)
	checkBad(t, api.ErrForm, `""`, 0)
	checkBad(t, api.ErrForm, "1-2", 0)
	checkBad(t, api.ErrForm, "PIC .", 4)
	checkBad(t, api.ErrForm, `PIC A"B"`, 4)
}

func TestScanNothing(t *testing.T) {
	checkScan(t, "")
	checkScan(t, "", ",")
	checkScan(t, "", " ", ";", ", ;  , ")
	if l, f := Scan([]columns.Card{}); len(l) != 0 || f != (api.Fault{}) {
		t.Errorf("%v, %v", l, f)
	}
}

func TestSeparators(t *testing.T) {
	checkScan(t, "Word A|Word B|Word C", "A   B C")
	checkScan(t, "Word A|Word B|Word C", " A, B; C ")
	checkScan(t, "Word A|Word B", "A , ; , B,", ";")
	checkScan(t, "Word A|Period|Word B", "A. , B")
	checkScan(t, "Quote A|Quote B", `"A", "B";`)
	checkScan(t, "Number 1|Number 2|Sign )", "1, 2; )")
	checkScan(t, "Pseudo|Sign =", "==, =,")
	checkBad(t, api.ErrForm, "A,B", 1)
	checkBad(t, api.ErrForm, "A ;B", 2)
	checkBad(t, api.ErrForm, "1,5", 1)
	checkBad(t, api.ErrForm, "A,,", 1)
	checkBad(t, api.ErrForm, "A,; ", 1)
	checkBad(t, api.ErrForm, "A,.", 1)
	checkBad(t, api.ErrForm, `,"A"`, 0)
}

func TestCardsDivideTokens(t *testing.T) {
	checkScan(t, "Word AB|Word CD", "AB", "CD")
	checkScan(t, "Number 1|Number 2", "1", "2")
	checkScan(t, "Number 1|Number .5", "1", ".5")
	checkScan(t, "Sign *|Sign *|Sign =|Sign =|Sign <|Sign =", "*", "*", "=", "=", "<", "=")
	checkScan(t, "Quote A|Quote B", `"A"`, `"B"`)
	checkScan(t, "Word A|Period|Word B", "A.", "B")
	checkScan(t, "Sign -|Number 1", "-", "1")
	checkScan(t, "Word A|Number -1", "A", "-1")
	checkFault(t, fault(api.ErrForm, 1, 12), cards(`"A`, `B"`)...)
	checkFault(t, fault(api.ErrForm, 1, 12), cards("A-", "B")...)
}

func TestPictures(t *testing.T) {
	checkScan(t, "Word PIC|Picture X|Word A", "PIC X A")
	checkScan(t, "Word PICTURE|Picture X(3)|Period", "picture x(3).")
	checkScan(t, "Word PIC|Word IS|Picture X|Period", "pic is x.")
	checkScan(t, "Word PICTURE|Word IS|Picture S9(4)V9(2)|Word COMP", "PICTURE IS s9(4)v9(2) COMP")
	checkScan(t, "Word PIC|Picture Z,ZZ9.99-|Period", "PIC Z,ZZ9.99-.")
	checkScan(t, "Word PIC|Picture 9;9,9.9|Word A", "PIC 9;9,9.9, A")
	checkScan(t, "Word PIC|Picture X|Word A", "PIC X; A")
	checkScan(t, "Word PIC|Picture X", "PIC X,")
	checkScan(t, "Word PIC|Picture X|Period", "PIC X.")
	checkScan(t, "Word PIC|Picture ,9|Word PIC|Picture ;9|Word PIC|Picture .9", "PIC ,9 PIC ;9 PIC .9")
	checkScan(t, "Word PIC|Picture -9|Word PIC|Picture **9|Word PIC|Picture =9", "PIC -9 PIC **9 PIC =9")
	checkScan(t, "Word PIC|Picture (3)|Word PIC|Picture .9", "PIC(3) PIC.9")
	checkScan(t, "Word PIC|Picture $_@'\x80\x00`{|Word A", "PIC $_@'\x80\x00`{ A")
	checkScan(t, "Word PIC|Picture "+strings.Repeat("9", 300), "PIC "+strings.Repeat("9", 300))
	checkScan(t, "Word PIC|Picture 1-|Word A", "PIC 1- A")
	checkScan(t, "Word PIC|Picture X==", "PIC X==")
}

func TestPicturesBehindCards(t *testing.T) {
	checkScan(t, "Word A|Word PIC|Picture B|Word C", "A PIC", "B C")
	checkScan(t, "Word PIC|Word IS|Picture B|Word C", "PIC", "IS", "B", "C")
	checkScan(t, "Word PICTURE|Picture -9", "PICTURE   ", "  -9")
	checkScan(t, "Word A|Word PIC", "A PIC")
	checkScan(t, "Word A|Word PIC|Word IS", "A PIC IS ")
	checkFault(t, fault(api.ErrForm, 2, 12), cards("PIC", ",")...)
	checkFault(t, fault(api.ErrForm, 2, 12), cards("PIC IS", ", X")...)
}

func TestIsBehindPic(t *testing.T) {
	checkScan(t, "Word PIC|Word IS|Picture IS|Word IS", "PIC IS IS IS")
	checkScan(t, "Word PIC|Picture ISX|Word IS|Word X", "PIC ISX IS X")
	checkScan(t, "Word PIC|Picture IS9|Word PIC|Picture IS-9", "PIC IS9 PIC is-9")
	checkScan(t, "Word PIC|Word IS|Picture (3)|Word PIC|Word IS|Picture +9", "PIC IS(3) PIC IS+9")
	checkScan(t, "Word IS|Word X|Word A|Word IS|Word X", "IS X A IS X")
	checkScan(t, "Word PIC|Picture A|Word IS|Word X", "PIC A IS X")
	checkScan(t, "Word PIC|Word IS|Picture 9|Period|Word IS|Word X", "PIC IS 9. IS X")
	checkScan(t, "Word PIC|Word IS|Pseudo|Word IS|Word X", "PIC IS== IS X")
	checkBad(t, api.ErrForm, "PIC IS.", 6)
	checkBad(t, api.ErrForm, "PIC IS, X", 6)
}

func TestWordsThatBeginNoPicture(t *testing.T) {
	checkScan(t, "Word PIC|Picture PIC|Word X|Word PIC|Picture PICTURE|Word X", "PIC PIC X PIC PICTURE X")
	checkScan(t, "Quote PIC|Word X|Quote PICTURE|Word IS|Word X", `"PIC" X "PICTURE" IS X`)
	checkScan(t, "Word PIC-1|Word X|Word PICS|Word X|Word PICTUR|Word X", "PIC-1 X PICS X PICTUR X")
	checkScan(t, "Word PIC|Pseudo|Word X|Pseudo", "PIC==X==")
	checkScan(t, "Pseudo|Word X|Word PIC|Pseudo|Word BY|Pseudo|Word Z|Word PICTURE|Word IS|Pseudo|Number 05|Word BY|Number 10|Period", "==X PIC== BY ==Z PICTURE IS== 05 BY 10.")
	checkScan(t, "Word PIC|Pseudo|Sign =|Word X", "PIC === X")
	checkScan(t, "Word PIC|Word IS|Pseudo|Number 9", "PIC IS ==9")
	checkScan(t, "Word PIC|Pseudo|Word PIC|Picture X", "PIC == PIC X")
}

func TestPictureFaults(t *testing.T) {
	for _, s := range []string{".", ",", ";", ". X", ", X", "; X", "X..", "X,.", "X.,", "X;;", "..", ",.", "X.. A", `"`, `"A"`, `X"`, `A"".`, `9".`, `X." Y`} {
		checkBad(t, api.ErrForm, "PIC "+s, 4)
		checkBad(t, api.ErrForm, "A PICTURE "+s, 10)
		checkBad(t, api.ErrForm, "PIC IS "+s, 7)
		checkFault(t, fault(api.ErrForm, 2, 12), cards("PIC", s)...)
	}
	checkBad(t, api.ErrForm, "PIC.", 3)
	checkBad(t, api.ErrForm, "PIC,", 3)
	checkBad(t, api.ErrForm, "PIC; X", 3)
	checkBad(t, api.ErrForm, `PIC"A"`, 3)
}

func TestQuotes(t *testing.T) {
	checkScan(t, "Quote A", `"A"`)
	checkScan(t, "Quote a  B, c. == PIC X ;", `"a  B, c. == PIC X ;"`)
	checkScan(t, "Quote  ", `" "`)
	checkScan(t, `Quote "`, `""""`)
	checkScan(t, `Quote ""|Quote A"|Quote "A`, `"""""" "A""" """A"`)
	checkScan(t, `Quote A"B""C`, `"A""B""""C"`)
	checkScan(t, "Word A|Quote B|Word C|Quote D|Number 1|Quote E|Period", `A"B"C"D"1"E".`)
	checkScan(t, "Quote A|Quote B|Sign (|Quote C|Sign )", `"A" "B"("C")`)
	checkScan(t, "Quote \x00\xff\n", "\"\x00\xff\n\"")
	long := strings.Repeat("x ", 300)
	checkScan(t, "Quote "+long, `"`+long+`"`)
	for _, s := range []string{`""`, `"" A`, `"A`, `"`, `"A""`, `"""`, `"A" "" "B"`[4:], `"""""`, `"" ""`} {
		checkBad(t, api.ErrForm, s, 0)
		checkBad(t, api.ErrForm, "MOVE "+s, 5)
	}
	checkBad(t, api.ErrForm, `"A" ""`, 4)
	checkBad(t, api.ErrForm, `"A"B"`, 4)
}

func TestPeriods(t *testing.T) {
	checkScan(t, "Period", ".")
	checkScan(t, "Period|Period|Word A|Period", ". .  A . ")
	checkScan(t, "Word A|Period|Word B|Period", "A. B.")
	checkScan(t, "Sign )|Period|Pseudo|Period", "). ==.")
	for _, s := range []string{"..", ".A", `."A"`, ".,", ".;", ".-1", ".(", ".=="} {
		checkBad(t, api.ErrForm, s, 0)
		checkBad(t, api.ErrForm, "A"+s, 1)
		checkBad(t, api.ErrForm, "1"+s, 1)
	}
}

func TestPseudos(t *testing.T) {
	checkScan(t, "Pseudo|Pseudo", "== ==")
	checkScan(t, "Pseudo|Pseudo|Word BY|Pseudo|Sign =|Pseudo", "====BY== = ==")
	checkScan(t, "Pseudo|Sign =|Word A|Sign =|Word B", "===A=B")
	checkScan(t, "Sign <=|Sign =|Sign >=|Sign =|Sign <=|Pseudo", "<== >== <===")
}

// The Text of a Period and of a Pseudo is what stands there, whatever stands around them.
func TestTextsOfPeriodsAndPseudos(t *testing.T) {
	for text, want := range map[string][]string{
		".":                    {"."},
		". . ":                 {".", "."},
		"A.":                   {"A", "."},
		"1.5. -.5.":            {"1.5", ".", "-.5", "."},
		`"A.". B`:              {"A.", ".", "B"},
		"A(1).":                {"A", "(", "1", ")", "."},
		"PIC 9. PIC IS X(2).":  {"PIC", "9", ".", "PIC", "IS", "X(2)", "."},
		"==":                   {"=="},
		"==== ===":             {"==", "==", "==", "="},
		"==a== by ==\"==\"==.": {"==", "A", "==", "BY", "==", "==", "==", "."},
		"==PIC== PIC ==.":      {"==", "PIC", "==", "PIC", "==", "."},
		"== . == . <==.":       {"==", ".", "==", ".", "<=", "=", "."},
	} {
		got, f := Scan(cards(text))
		var texts []string
		for _, x := range got {
			texts = append(texts, x.Text)
		}
		if f != (api.Fault{}) || !slices.Equal(texts, want) {
			t.Errorf("%q: %q, %v instead of %q", text, texts, f, want)
		}
	}
}
