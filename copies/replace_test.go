package copies

import (
	"reflect"
	"slices"
	"strings"
	"testing"

	"columnseven/api"
	"columnseven/columns"
	"columnseven/tokens"
)

func pos(line, column int) api.Pos { return api.Pos{Line: line, Column: column} }

func fault(e api.Errno, line, column int) api.Fault { return api.Fault{E: e, At: pos(line, column)} }

func tok(k api.Kind, text string) api.Token { return api.Token{Kind: k, Text: text} }

// inLine returns the tokens of a text that begins in column 12 of a line.
func inLine(t *testing.T, line int, text string) []api.Token {
	t.Helper()
	if strings.Trim(text, " ") == "" {
		return nil
	}
	l, f := tokens.Scan([]columns.Card{{Text: text, Marks: []columns.Mark{{At: pos(line, 12)}}}})
	if f != (api.Fault{}) {
		t.Fatalf("%q: %v", text, f)
	}
	return l
}

// list returns the tokens of a text in line 1.
func list(t *testing.T, text string) []api.Token {
	t.Helper()
	return inLine(t, 1, text)
}

// many returns n equal words.
func many(n int, text string) []api.Token {
	return slices.Repeat([]api.Token{tok(api.Word, text)}, n)
}

// changes returns replacements from texts: what is replaced, what by, and so on.
func changes(t *testing.T, texts ...string) []Replacement {
	t.Helper()
	var out []Replacement
	for i := 0; i < len(texts); i += 2 {
		out = append(out, Replacement{Old: inLine(t, 100+i, texts[i]), New: inLine(t, 101+i, texts[i+1])})
	}
	return out
}

// checkReplace checks the tokens of a text in which replacements are performed.
func checkReplace(t *testing.T, text, want string, texts ...string) {
	t.Helper()
	got, e := Replace(list(t, text), changes(t, texts...))
	if e != api.OK || !tokens.Same(got, list(t, want)) {
		t.Errorf("%s, with %q: %s, %d instead of %s", text, texts, tokens.Text(got), e, want)
	}
	if len(got) != cap(got) {
		t.Errorf("%s, with %q: %d tokens in a slice of %d", text, texts, len(got), cap(got))
	}
}

// P4.1

func TestReplace(t *testing.T) {
	checkReplace(t, "", "")
	checkReplace(t, "", "", "A", "B")
	checkReplace(t, "A B . 1", "A B . 1")
	checkReplace(t, "A B . 1", "A B . 1", "C", "D")
	checkReplace(t, "A", "B", "A", "B")
	checkReplace(t, "A B A", "C B C", "A", "C")
	checkReplace(t, "05 X PIC 9(3).", "10 Z PICTURE IS 9(3).", "X PIC", "Z PICTURE IS", "05", "10")
	checkReplace(t, "A B C", "A X Y Z C", "B", "X Y Z")
	checkReplace(t, "A B C D", "A X D", "B C", "X")
	checkReplace(t, "A B C", "A C", "B", "")
	checkReplace(t, "B B", "", "B", "")
	checkReplace(t, "A. B.", "A; B C", ".", "", "B", "B C")
	checkReplace(t, `"A" A ( 1.0 = 1`, `A "A" ) 1.0 = 2`, `"A"`, "A", "A", `"A"`, "(", ")", "1", "2")
	checkReplace(t, "X PIC 9. 05 PIC X.", "X PIC 9. 05 PIC A.", "PIC X", "PIC A")
}

func TestReplaceTakesTheFirstOne(t *testing.T) {
	checkReplace(t, "A B", "X B", "A", "X", "A B", "Y")
	checkReplace(t, "A B", "Y", "A B", "Y", "A", "X")
	checkReplace(t, "A A", "X X", "A", "X", "A", "Y")
	checkReplace(t, "B A", "2 1", "A", "1", "B", "2")
	checkReplace(t, "A B C", "A Y", "A C", "X", "B C", "Y", "B", "Z")
}

func TestReplaceGoesOnBehind(t *testing.T) {
	// What was put in is not searched, neither alone nor together with what stands around it.
	checkReplace(t, "A B", "B C", "A", "B", "B", "C")
	checkReplace(t, "A", "A A", "A", "A A")
	checkReplace(t, "A A", "B A B A", "A", "B A")
	checkReplace(t, "X B C", "A B C", "X", "A", "A B", "Y")
	checkReplace(t, "A X C", "A B C", "X", "B", "B C", "Y")
	checkReplace(t, "A X B", "A B", "X", "", "A B", "Y")
	// Nor is what was replaced.
	checkReplace(t, "A A A", "X A", "A A", "X")
	checkReplace(t, "A A A A", "X X", "A A", "X")
	checkReplace(t, "A B A B A", "X B A", "A B A", "X")
	checkReplace(t, "A B A B A C", "A B X", "A B A C", "X")
	checkReplace(t, "A A B", "A X", "A B", "X")
}

func TestReplaceAtTheEnd(t *testing.T) {
	checkReplace(t, "A", "A", "A B", "X")
	checkReplace(t, "B A", "B A", "A B", "X")
	checkReplace(t, "A B A", "X A", "A B", "X", "A B A C", "Y")
	checkReplace(t, "C A B", "C X", "A B", "X")
}

func TestAlike(t *testing.T) {
	word := tok(api.Word, "A")
	elsewhere := api.Token{Kind: api.Word, Text: "A", At: pos(7, 8), Left: true}
	put := []api.Token{tok(api.Sign, "*")}
	for _, x := range []struct {
		in, old api.Token
		want    bool
	}{
		{word, word, true},
		{word, elsewhere, true},
		{elsewhere, word, true},
		{word, tok(api.Word, "a"), false},
		{word, tok(api.Word, "A "), false},
		{word, tok(api.Word, ""), false},
		{word, tok(api.Quote, "A"), false},
		{word, tok(api.Picture, "A"), false},
		{tok(api.Number, "1"), tok(api.Number, "01"), false},
		{tok(api.Number, "1"), tok(api.Word, "1"), false},
		{tok(api.Period, "."), tok(api.Period, ""), false},
		{tok(api.Pseudo, "=="), tok(api.Pseudo, "=="), true},
		{tok(0, ""), tok(0, ""), true},
		{tok(200, "?"), tok(200, "?"), true},
		{tok(200, "?"), tok(201, "?"), false},
	} {
		want := []api.Token{x.in}
		if x.want {
			want = put
		}
		got, e := Replace([]api.Token{x.in}, []Replacement{{Old: []api.Token{x.old}, New: put}})
		if e != api.OK || !reflect.DeepEqual(got, want) {
			t.Errorf("%v in place of %v: %v, %d", x.old, x.in, got, e)
		}
	}
}

func TestReplaceKeepsPositions(t *testing.T) {
	l := inLine(t, 3, "A B C")
	l[0].Left = true
	r := changes(t, "B", "X Y")
	r[0].New[1].Left = true
	got, e := Replace(l, r)
	want := []api.Token{
		{Kind: api.Word, Text: "A", At: pos(3, 12), Left: true},
		{Kind: api.Word, Text: "X", At: pos(101, 12)},
		{Kind: api.Word, Text: "Y", At: pos(101, 14), Left: true},
		{Kind: api.Word, Text: "C", At: pos(3, 16)},
	}
	if e != api.OK || !reflect.DeepEqual(got, want) {
		t.Errorf("%+v, %d", got, e)
	}
}

func TestReplaceEmptyOld(t *testing.T) {
	good := Replacement{Old: many(1, "A"), New: many(1, "B")}
	for _, r := range [][]Replacement{
		{{}},
		{{Old: []api.Token{}, New: many(1, "B")}},
		{good, {}},
		{{}, good},
		{good, good, {New: many(api.MaxTokens+1, "B")}, good},
	} {
		for _, n := range []int{0, 1, api.MaxTokens + 1} {
			if got, e := Replace(many(n, "A"), r); len(got) != 0 || e != api.ErrArg {
				t.Errorf("%d tokens, %d replacements: %d tokens, %d", n, len(r), len(got), e)
			}
		}
	}
}

func TestReplaceLimit(t *testing.T) {
	r := func(old, new int) []Replacement {
		return []Replacement{{Old: many(old, "A"), New: many(new, "B")}}
	}
	for _, x := range []struct {
		l    []api.Token
		r    []Replacement
		want int // tokens, or -1 for ErrLimit
	}{
		{many(api.MaxTokens, "A"), nil, api.MaxTokens},
		{many(api.MaxTokens+1, "A"), nil, -1},
		{many(api.MaxTokens+1, "C"), r(1, 0), -1},
		{many(api.MaxTokens, "A"), r(1, 1), api.MaxTokens},
		{many(api.MaxTokens+1, "A"), r(1, 1), -1},
		{many(api.MaxTokens/2, "A"), r(1, 2), api.MaxTokens},
		{many(api.MaxTokens/2+1, "A"), r(1, 2), -1},
		{many(api.MaxTokens*2, "A"), r(2, 1), api.MaxTokens},
		{many(api.MaxTokens*2+1, "A"), r(2, 1), -1},
		{many(api.MaxTokens*3, "A"), r(1, 0), 0},
		{many(1, "A"), r(1, api.MaxTokens), api.MaxTokens},
		{many(1, "A"), r(1, api.MaxTokens+1), -1},
		{many(2, "A"), r(1, api.MaxTokens), -1},
		{many(2, "A"), r(2, api.MaxTokens), api.MaxTokens},
		{many(2, "C"), r(1, api.MaxTokens+1), 2},
		{append(many(1, "C"), many(1, "A")...), r(1, api.MaxTokens), -1},
		{append(many(1, "A"), many(1, "C")...), r(1, api.MaxTokens), -1},
	} {
		got, e := Replace(x.l, x.r)
		if x.want < 0 {
			if len(got) != 0 || e != api.ErrLimit {
				t.Errorf("%d tokens: %d tokens, %d", len(x.l), len(got), e)
			}
		} else if len(got) != x.want || e != api.OK {
			t.Errorf("%d tokens: %d tokens, %d", len(x.l), len(got), e)
		}
	}
}

func TestReplaceKeepsNoMemory(t *testing.T) {
	l, r := list(t, "A B A"), changes(t, "B", "X Y", "Z", "Z")
	got, e := Replace(l, r)
	if e != api.OK {
		t.Fatal(e)
	}
	for i := range got {
		got[i].Text = "?"
	}
	if !reflect.DeepEqual(l, list(t, "A B A")) || !reflect.DeepEqual(r, changes(t, "B", "X Y", "Z", "Z")) {
		t.Errorf("%v, %v", l, r)
	}
	got, _ = Replace(l, nil)
	got[0].Text = "?"
	if !reflect.DeepEqual(l, list(t, "A B A")) {
		t.Errorf("without replacements: %v", l)
	}
}
