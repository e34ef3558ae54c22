package tokens

import (
	"reflect"
	"testing"

	"columnseven/api"
)

func tok(k api.Kind, text string) api.Token { return api.Token{Kind: k, Text: text} }

// P3.2

func TestText(t *testing.T) {
	for _, x := range []struct {
		l    []api.Token
		want string
	}{
		{nil, ""},
		{[]api.Token{}, ""},
		{[]api.Token{tok(api.Word, "MOVE")}, "MOVE"},
		{[]api.Token{tok(api.Word, "MOVE"), tok(api.Number, "-1.50"), tok(api.Sign, "("), tok(api.Period, ".")}, "MOVE -1.50 ( ."},
		{[]api.Token{tok(api.Word, "PIC"), tok(api.Picture, "9(3)V99"), tok(api.Period, ".")}, "PIC 9(3)V99 ."},
		{[]api.Token{tok(api.Quote, "A"), tok(api.Quote, `B"C`), tok(api.Quote, `"`), tok(api.Quote, `""`)}, `"A" "B""C" """" """"""`},
		{[]api.Token{tok(api.Pseudo, "=="), tok(api.Word, "A"), tok(api.Pseudo, "==")}, "== A =="},
		// any tokens
		{[]api.Token{tok(api.Quote, "")}, `""`},
		{[]api.Token{tok(api.Period, "X"), tok(api.Pseudo, "Y")}, ". =="},
		{[]api.Token{tok(api.Period, ""), tok(api.Pseudo, "")}, ". =="},
		{[]api.Token{tok(api.Word, ""), tok(api.Word, `a "b`), tok(0, "Q"), tok(255, "\x00"), tok(api.Sign, "")}, " a \"b Q \x00 "},
		{[]api.Token{{Kind: api.Word, Text: "A", At: pos(-1, 99), Left: true}, {}}, "A "},
	} {
		if got := Text(x.l); got != x.want {
			t.Errorf("%v: %q instead of %q", x.l, got, x.want)
		}
	}
}

// P3.3

func TestSame(t *testing.T) {
	a, one, p := tok(api.Word, "A"), tok(api.Number, "1"), tok(api.Period, ".")
	for _, x := range []struct {
		a, b []api.Token
		want bool
	}{
		{nil, nil, true},
		{nil, []api.Token{}, true},
		{[]api.Token{a, one, p}, []api.Token{a, one, p}, true},
		{[]api.Token{a}, []api.Token{{Kind: api.Word, Text: "A", At: pos(3, 9), Left: true}}, true},
		{[]api.Token{a}, nil, false},
		{nil, []api.Token{{}}, false},
		{[]api.Token{a, one}, []api.Token{a}, false},
		{[]api.Token{a, one}, []api.Token{one, a}, false},
		{[]api.Token{a, one}, []api.Token{a, tok(api.Number, "2")}, false},
		{[]api.Token{a}, []api.Token{tok(api.Word, "a")}, false},
		{[]api.Token{a}, []api.Token{tok(api.Quote, "A")}, false},
		{[]api.Token{one}, []api.Token{tok(api.Number, "01")}, false},
		{[]api.Token{p}, []api.Token{tok(api.Period, "X")}, false},
		{[]api.Token{p}, []api.Token{tok(api.Period, "")}, false},
		{[]api.Token{p}, []api.Token{tok(api.Pseudo, ".")}, false},
		{[]api.Token{tok(99, "?")}, []api.Token{tok(99, "?")}, true},
		{[]api.Token{tok(99, "?")}, []api.Token{tok(98, "?")}, false},
	} {
		if Same(x.a, x.b) != x.want || Same(x.b, x.a) != x.want {
			t.Errorf("%v, %v: not %t", x.a, x.b, x.want)
		}
	}
}

// P3.4

func TestSplit(t *testing.T) {
	a := api.Token{Kind: api.Word, Text: "A", At: pos(1, 8), Left: true}
	b := api.Token{Kind: api.Number, Text: "1", At: pos(1, 10)}
	p := api.Token{Kind: api.Period, Text: ".", At: pos(1, 11)}
	odd := tok(api.Period, "X")
	dot := tok(api.Quote, ".")
	for _, x := range []struct {
		l    []api.Token
		want [][]api.Token
	}{
		{nil, nil},
		{[]api.Token{}, nil},
		{[]api.Token{p}, [][]api.Token{{}}},
		{[]api.Token{p, odd}, [][]api.Token{{}, {}}},
		{[]api.Token{a}, [][]api.Token{{a}}},
		{[]api.Token{a, b, p}, [][]api.Token{{a, b}}},
		{[]api.Token{a, p, b}, [][]api.Token{{a}, {b}}},
		{[]api.Token{p, a, b, p, p, b, a, p, a}, [][]api.Token{{}, {a, b}, {}, {b, a}, {a}}},
		{[]api.Token{dot, odd, {}, tok(api.Word, ".")}, [][]api.Token{{dot}, {{}, tok(api.Word, ".")}}},
	} {
		got := Split(x.l)
		if len(got) != len(x.want) || len(got) != cap(got) {
			t.Errorf("%v: %v, %d", x.l, got, cap(got))
			continue
		}
		for i, part := range got {
			if len(part) != len(x.want[i]) || len(part) > 0 && !reflect.DeepEqual(part, x.want[i]) || len(part) != cap(part) {
				t.Errorf("%v: %v, list %d with %d", x.l, got, i, cap(part))
			}
		}
	}
}

func TestSplitKeepsNoMemory(t *testing.T) {
	l := []api.Token{tok(api.Word, "A"), tok(api.Word, "B"), tok(api.Period, "."), tok(api.Word, "C")}
	got := Split(l)
	got[0][0].Text, got[1][0].Text = "X", "Y"
	if Text(l) != "A B . C" {
		t.Errorf("%v", l)
	}
	got[0] = append(got[0], tok(api.Word, "Z"))
	if Text(l) != "A B . C" || Text(got[1]) != "Y" {
		t.Errorf("%v, %v", l, got)
	}
}
