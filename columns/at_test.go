package columns

import (
	"math"
	"testing"

	"columnseven/api"
)

// P2.2

func TestAt(t *testing.T) {
	c := card(true, "ABCDEFG", Mark{0, pos(3, 8)}, Mark{2, pos(5, 72)}, Mark{3, pos(9, 13)})
	for i, want := range []api.Pos{pos(3, 8), pos(3, 9), pos(5, 72), pos(9, 13), pos(9, 14), pos(9, 15), pos(9, 16), pos(9, 17)} {
		if got, e := At(c, i); got != want || e != api.OK {
			t.Errorf("%d: %v, %d", i, got, e)
		}
	}
	for _, i := range []int{-1, 8, math.MinInt, math.MaxInt} {
		if got, e := At(c, i); got != (api.Pos{}) || e != api.ErrArg {
			t.Errorf("%d: %v, %d", i, got, e)
		}
	}
}

func TestAtOneMark(t *testing.T) {
	for _, x := range []struct{ line, column int }{{1, 8}, {1, 72}, {math.MaxInt, 12}, {api.MaxText, 8}} {
		c := card(false, "A", Mark{0, pos(x.line, x.column)})
		if got, e := At(c, 0); got != pos(x.line, x.column) || e != api.OK {
			t.Errorf("%+v: %v, %d", c, got, e)
		}
		if got, e := At(c, 1); got != pos(x.line, x.column+1) || e != api.OK {
			t.Errorf("%+v, behind the text: %v, %d", c, got, e)
		}
	}
	// Left, the characters and the order of the lines do not matter.
	c := card(true, "\x00\n\"", Mark{0, pos(9, 72)}, Mark{1, pos(2, 8)}, Mark{2, pos(2, 8)})
	if got, e := At(c, 3); got != pos(2, 9) || e != api.OK {
		t.Errorf("%v, %d", got, e)
	}
}

func TestAtInvalidCards(t *testing.T) {
	good := Mark{0, pos(1, 8)}
	for _, c := range []Card{
		{},
		card(false, ""),
		card(false, "", good),
		card(false, "ABC"),
		card(false, "ABC", Mark{1, pos(1, 8)}),
		card(false, "ABC", Mark{-1, pos(1, 8)}),
		card(false, "ABC", good, Mark{0, pos(2, 8)}),
		card(false, "ABC", good, Mark{-1, pos(2, 8)}),
		card(false, "ABC", good, Mark{3, pos(2, 8)}),
		card(false, "ABC", good, Mark{math.MaxInt, pos(2, 8)}),
		card(false, "ABC", good, Mark{2, pos(2, 8)}, Mark{1, pos(3, 8)}),
		card(false, "ABC", good, Mark{2, pos(2, 8)}, Mark{2, pos(3, 8)}),
		card(false, "ABC", Mark{0, pos(0, 8)}),
		card(false, "ABC", Mark{0, pos(-1, 8)}),
		card(false, "ABC", Mark{0, pos(1, 7)}),
		card(false, "ABC", Mark{0, pos(1, 73)}),
		card(false, "ABC", Mark{0, pos(1, math.MaxInt)}),
		card(false, "ABC", Mark{0, pos(1, math.MinInt)}),
		card(false, "ABC", good, Mark{1, pos(0, 8)}),
		card(false, "ABC", good, Mark{1, pos(2, 7)}),
		card(false, "ABC", good, Mark{1, pos(2, 73)}),
	} {
		for i := -1; i <= len(c.Text)+1; i++ {
			if got, e := At(c, i); got != (api.Pos{}) || e != api.ErrArg {
				t.Errorf("%+v, %d: %v, %d", c, i, got, e)
			}
		}
	}
}
