package tokens

import (
	"math/rand"
	"strings"
	"testing"

	"columnseven/api"
	"columnseven/columns"
)

// P3.5

// The parts of which random cards consist; some of them do not fit one another.
var pieces = []string{
	"A", "move", "B-1", "1A", "PIC", "picture", "is", "IS", "TO", strings.Repeat("LONG-", 5) + "NAME",
	"1", "-1", "+.5", "12.50", ".5", "007", "-123456789012345678",
	`"A"`, `"B""C"`, `""""`, `" x  y "`, `"` + strings.Repeat("ab  ", 40) + `"`, `"` + strings.Repeat(`""`, 70) + `"`,
	"(", ")", ":", "+", "-", "*", "/", "**", "=", "<", ">", "<=", ">=", "<>", "==", ".", ". ", ", ", "; ",
	"9(3)v99", "Z,ZZ9.99-", "X(10)", "X.", "9,", strings.Repeat("9", 90), " ", " ", " ", "  ", " ", " ",
}

// randomText returns the text of a card.
func randomText(r *rand.Rand) string {
	var b strings.Builder
	for range 1 + r.Intn(25) {
		b.WriteString(pieces[r.Intn(len(pieces))])
		if r.Intn(3) > 0 {
			b.WriteByte(' ')
		}
	}
	if s := strings.Trim(b.String(), " "); s != "" {
		return s
	}
	return "A"
}

// randomTokens returns the tokens of some random cards; each of them is one that Scan accepts behind those before.
func randomTokens(r *rand.Rand) []api.Token {
	var l []columns.Card
	var out []api.Token
	for range 1 + r.Intn(6) {
		with := append(l[:len(l):len(l)], card(len(l)+1, randomText(r)))
		if got, f := Scan(with); f == (api.Fault{}) {
			l, out = with, got
		}
	}
	return out
}

func TestTextIsScannedAgain(t *testing.T) {
	r := rand.New(rand.NewSource(1))
	count := 0
	for i := range 20000 {
		l := randomTokens(r)
		if len(l) == 0 {
			continue
		}
		count++
		left := i%2 == 0
		source, e := columns.Write([]columns.Line{{Left: left, Text: Text(l)}})
		if e != api.OK {
			t.Fatalf("%q: %d", Text(l), e)
		}
		again, f := Source(source, i%3 == 0)
		if f != (api.Fault{}) || !Same(l, again) {
			t.Fatalf("%s\n%s, %v\n%s", show(l), show(again), f, source)
		}
		if again[0].Left != left {
			t.Fatalf("%+v\n%s", again[0], source)
		}
	}
	if count < 5000 {
		t.Errorf("only %d of the lists have tokens", count)
	}
}

// cuts returns where the rest of a text can be continued in another line, if n columns remain; open tells whether it begins within a literal.
func cuts(rest string, n int, open bool) []int {
	var out []int
	for i := 1; i <= n && i < len(rest); i++ {
		if rest[i-1] == '"' {
			open = !open
		}
		// Spaces at the end of a line are only kept within a literal, which is filled up to column 72.
		if open && i == n || !open && rest[i-1] != ' ' && rest[i] != ' ' {
			out = append(out, i)
		}
	}
	return out
}

// inLines lays out a text in a first line and continuations of any length, with comments between them; it returns nothing if it finds no way.
func inLines(r *rand.Rand, text string) string {
	var b strings.Builder
	b.WriteString(spaces(11))
	column, open := 12, false
	for {
		n := 73 - column
		if len(text) <= n && r.Intn(3) == 0 {
			return b.String() + text
		}
		at := cuts(text, n, open)
		if len(at) == 0 {
			return ""
		}
		end := at[r.Intn(len(at))]
		open = open != (strings.Count(text[:end], `"`)%2 == 1)
		b.WriteString(text[:end] + "\n")
		text = text[end:]
		if r.Intn(4) == 0 {
			b.WriteString("      * A \"NOTE\n\n")
		}
		indent := r.Intn(20)
		b.WriteString("      -    " + spaces(indent))
		column = 12 + indent
		if open {
			b.WriteByte('"')
			column++
		}
	}
}

func TestLinesDoNotMatter(t *testing.T) {
	r := rand.New(rand.NewSource(2))
	count := 0
	for range 60000 {
		text := randomText(r)
		source := inLines(r, text)
		if source == "" || strings.Count(text, `"`)%2 == 1 {
			continue
		}
		count++
		l, f := columns.Read(source, false)
		if f != (api.Fault{}) || len(l) != 1 || l[0].Text != text {
			t.Fatalf("%q is read as %v, %v\n%s", text, l, f, source)
		}
		moved := func(p api.Pos) api.Pos {
			at, _ := columns.At(l[0], p.Column-12)
			return at
		}
		want, wantFault := Scan([]columns.Card{card(1, text)})
		got, f := Source(source, false)
		if !Same(got, want) || f.E != wantFault.E || f.E != api.OK && f.At != moved(wantFault.At) {
			t.Fatalf("%s, %v\n%s, %v\n%s", show(want), wantFault, show(got), f, source)
		}
		for i := range got {
			if got[i].At != moved(want[i].At) || got[i].Left {
				t.Fatalf("%+v is not at %v\n%s", got[i], moved(want[i].At), source)
			}
		}
	}
	if count < 20000 {
		t.Errorf("only %d of the texts could be laid out", count)
	}
}

func TestSplitIsJoinedAgain(t *testing.T) {
	r := rand.New(rand.NewSource(3))
	for range 20000 {
		l := append(randomTokens(r), tok(api.Period, "."))
		var again []api.Token
		for _, part := range Split(l) {
			again = append(again, part...)
			again = append(again, tok(api.Period, "."))
		}
		if !Same(l, again) {
			t.Fatalf("%s\n%s", show(l), show(again))
		}
	}
}

// P1: any text of a card has tokens, or a fault that stands in it.
func TestAnyBytes(t *testing.T) {
	r := rand.New(rand.NewSource(4))
	letters := "AP1IC.,;\"\"+-*()=< >?\x00\xff"
	for range 100000 {
		b := make([]byte, 1+r.Intn(12))
		for i := range b {
			b[i] = letters[r.Intn(len(letters))]
		}
		text := string(b)
		if r.Intn(3) == 0 {
			text = "PIC " + text
		}
		l, f := Scan([]columns.Card{card(1, text)})
		if f == (api.Fault{}) {
			continue
		}
		i := f.At.Column - 12
		if len(l) != 0 || f.E != api.ErrForm || f.At.Line != 1 || i < 0 || i >= len(text) || text[i] == ' ' {
			t.Fatalf("%q: %v, %v", text, l, f)
		}
		if before := text[:i]; before != "" {
			if _, f := Scan([]columns.Card{card(1, before)}); f != (api.Fault{}) {
				t.Fatalf("%q has a fault in front of that at %d: %v", text, i, f)
			}
		}
	}
}
