package pictures

import (
	"math"
	"math/rand"
	"strconv"
	"strings"
	"testing"

	"columnseven/api"
)

// randomPicture returns symbols, some of them with a number behind them.
func randomPicture(r *rand.Rand, symbols string, n, most int) string {
	var b strings.Builder
	for range n {
		b.WriteByte(symbols[r.Intn(len(symbols))])
		if r.Intn(3) == 0 {
			b.WriteString("(" + strings.Repeat("0", r.Intn(3)) + strconv.Itoa(1+r.Intn(most)) + ")")
		}
	}
	return b.String()
}

// P6.3

func sized(t *testing.T, s api.Shape, want int) {
	t.Helper()
	for _, n := range []int{s.Size, -1, 0, 7, math.MaxInt, math.MinInt} {
		if s.Category != api.Group {
			s.Size = n
		}
		if got, e := Size(s); e != api.OK || got != want {
			t.Errorf("Size(%+v) is %d, %d, not %d", s, got, e, want)
		}
	}
}

func sizeRefused(t *testing.T, s api.Shape, want api.Errno) {
	t.Helper()
	if got, e := Size(s); e != want || got != 0 {
		t.Errorf("Size(%+v) is %d, %d, not %d", s, got, e, want)
	}
	if e := Check(s); e != want {
		t.Errorf("Check(%+v) is %d, not %d", s, e, want)
	}
}

func TestSizeNumeric(t *testing.T) {
	sizes := map[api.Usage][]int{
		api.Display: {1, 2, 3, 4, 5, 6, 7, 8, 9, 10, 11, 12, 13, 14, 15, 16, 17, 18},
		api.Packed:  {1, 2, 2, 3, 3, 4, 4, 5, 5, 6, 6, 7, 7, 8, 8, 9, 9, 10},
		api.Binary:  {2, 2, 2, 2, 4, 4, 4, 4, 4, 8, 8, 8, 8, 8, 8, 8, 8, 8},
	}
	for usage, l := range sizes {
		for i, n := range l {
			s := api.Shape{Category: api.Numeric, Usage: usage, Digits: i + 1}
			sized(t, s, n)
			// Nothing else matters.
			s.Picture, s.Scale, s.Signed, s.Leading, s.Just, s.Blank = "XVX(", -50, i%2 == 0, i%3 == 0, true, true
			sized(t, s, n)
			s.Separate = true
			if usage == api.Display {
				n++
			}
			sized(t, s, n)
		}
	}
}

func TestSizeOther(t *testing.T) {
	for _, c := range []api.Category{api.Alphabetic, api.Alphanumeric, api.AlphaEdited, api.Edited} {
		for p, n := range map[string]int{
			"": 0, "A": 1, "XXX": 3, "X(5)": 4, "V": 0, "ZVV9": 2, "9.9": 3, "ZZ9.99-": 7, "9CR": 3, "?": 1, "\xff\x00": 2, "v": 1,
			"\u00e9": 2, strings.Repeat("XV", 1000): 1000,
		} {
			for usage := range api.Usage(3) {
				sized(t, api.Shape{Category: c, Picture: p, Usage: usage}, n)
				sized(t, api.Shape{Category: c, Picture: p, Usage: usage, Digits: 99, Scale: 5, Signed: true, Separate: true}, n)
			}
		}
	}
	for _, n := range []int{0, 1, 500, api.MaxStore - 1, api.MaxStore} {
		sized(t, api.Shape{Size: n}, n)
		sized(t, api.Shape{Size: n, Usage: api.Binary, Picture: "XXX", Digits: 5, Separate: true}, n)
	}
}

func TestSizeErrors(t *testing.T) {
	for c := 6; c < 256; c++ {
		sizeRefused(t, api.Shape{Category: api.Category(c), Picture: "X", Size: 1}, api.ErrKind)
		sizeRefused(t, api.Shape{Category: api.Category(c), Size: -1, Digits: 99}, api.ErrKind)
	}
	for u := 3; u < 256; u++ {
		for c := range api.Category(6) {
			sizeRefused(t, api.Shape{Category: c, Usage: api.Usage(u), Picture: "9", Digits: 1, Size: 1}, api.ErrKind)
			sizeRefused(t, api.Shape{Category: c, Usage: api.Usage(u), Size: -1}, api.ErrKind)
		}
	}
	for _, digits := range []int{0, -1, 19, 20, math.MaxInt, math.MinInt} {
		for usage := range api.Usage(3) {
			sizeRefused(t, api.Shape{Category: api.Numeric, Usage: usage, Digits: digits, Picture: "X(", Size: digits}, api.ErrArg)
		}
	}
	for _, n := range []int{-1, api.MaxStore + 1, math.MaxInt, math.MinInt} {
		sizeRefused(t, api.Shape{Size: n}, api.ErrArg)
	}
}

// P6.4

func checked(t *testing.T, s api.Shape, want api.Errno) {
	t.Helper()
	if e := Check(s); e != want {
		t.Errorf("Check(%+v) is %d, not %d", s, e, want)
	}
}

// shapeOf returns the shape of a picture, after a change, and with the size that it has then.
func shapeOf(p string, change func(*api.Shape)) api.Shape {
	s, _ := Parse(p)
	change(&s)
	s.Size, _ = Size(s)
	return s
}

func TestCheckGroup(t *testing.T) {
	for _, n := range []int{0, 1, 77, api.MaxStore} {
		checked(t, api.Shape{Size: n}, api.OK)
		for _, s := range []api.Shape{
			{Picture: "X"}, {Picture: "X("}, {Usage: api.Packed}, {Usage: api.Binary}, {Digits: 1}, {Digits: -1}, {Scale: 1}, {Signed: true},
			{Leading: true}, {Separate: true}, {Just: true}, {Blank: true}, {Leading: true, Picture: "9(19)"},
		} {
			s.Size = n
			checked(t, s, api.ErrArg)
		}
	}
	checked(t, api.Shape{Size: -1, Just: true}, api.ErrArg)
	checked(t, api.Shape{Size: 3, Usage: 3}, api.ErrKind)
}

func TestCheckPicture(t *testing.T) {
	for p, want := range map[string]api.Errno{
		"": api.ErrForm, "X(0)": api.ErrForm, "9Z": api.ErrForm, "x": api.ErrForm, "X(257)": api.ErrLimit, "9(19)": api.ErrLimit, "9(9)P(10)": api.ErrLimit,
		strings.Repeat("X", 257): api.ErrLimit, strings.Repeat("Z", 19): api.ErrLimit, "\xff": api.ErrForm,
		// Valid ones that are not expanded.
		"X(3)": api.ErrForm, "9(1)": api.ErrForm, "A(1)": api.ErrForm, "ZZ9(1)": api.ErrForm,
	} {
		for c := api.Alphabetic; c <= api.Edited; c++ {
			// The errors that stand behind do not matter.
			checked(t, api.Shape{Category: c, Picture: p, Digits: 1, Just: true, Blank: true, Leading: true, Size: -5}, want)
			checked(t, api.Shape{Category: c, Picture: p, Digits: 18, Signed: true, Scale: 40}, want)
		}
	}
}

func TestCheckFields(t *testing.T) {
	for _, p := range []string{"AAA", "XX9", "XB", "99", "S99V9", "99PP", "ZZ9.99", "--V-", "9CR"} {
		checked(t, shapeOf(p, func(*api.Shape) {}), api.OK)
		for _, change := range []func(*api.Shape){
			func(s *api.Shape) { s.Category = s.Category%5 + 1 },
			func(s *api.Shape) { s.Digits++ },
			func(s *api.Shape) { s.Scale++ },
			func(s *api.Shape) { s.Scale = -s.Scale - 1 },
			func(s *api.Shape) { s.Signed = !s.Signed },
			func(s *api.Shape) { s.Signed, s.Just, s.Blank = !s.Signed, true, true },
			func(s *api.Shape) { s.Scale, s.Leading = math.MaxInt, true },
		} {
			s := shapeOf(p, change)
			if s.Category == api.Numeric && (s.Digits < 1 || s.Digits > 18) {
				s.Digits = 18
			}
			checked(t, s, api.ErrArg)
			s.Size = -1
			checked(t, s, api.ErrArg)
		}
	}
}

func TestCheckKind(t *testing.T) {
	for p, c := range map[string]api.Category{
		"AAA": api.Alphabetic, "XX9": api.Alphanumeric, "XB": api.AlphaEdited, "99": api.Numeric, "S99V9": api.Numeric, "ZZ9.99": api.Edited, "9CR": api.Edited,
	} {
		for bits := range 1 << 4 {
			for usage := range api.Usage(3) {
				leading, separate, just, blank := bits&1 > 0, bits&2 > 0, bits&4 > 0, bits&8 > 0
				s := shapeOf(p, func(s *api.Shape) {
					s.Usage, s.Leading, s.Separate, s.Just, s.Blank = usage, leading, separate, just, blank
				})
				kind := usage != 0 && c != api.Numeric || (leading || separate) && (p != "S99V9" || usage != 0) ||
					just && p != "AAA" && p != "XX9" || blank && c != api.Edited
				want, wide := api.OK, api.ErrWidth
				if kind {
					want, wide = api.ErrKind, api.ErrKind
				}
				checked(t, s, want)
				s.Size++
				checked(t, s, wide)
				s.Size -= 2
				checked(t, s, wide)
			}
		}
	}
}

func TestCheckWidth(t *testing.T) {
	for _, n := range []int{-1, 0, 4, 6, math.MaxInt, math.MinInt} {
		s, _ := Parse("S9(3)V99")
		s.Size = n
		checked(t, s, api.ErrWidth)
		s.Usage = api.Packed
		checked(t, s, api.ErrWidth)
		s = shapeOf("ZZZV99", func(*api.Shape) {})
		s.Size = n
		checked(t, s, api.ErrWidth)
	}
	checked(t, shapeOf("ZZZV99", func(s *api.Shape) { s.Blank = true }), api.OK)
}

// P6.5

func consequences(t *testing.T, s string) {
	t.Helper()
	p, e := Expand(s)
	short, f := Short(s)
	if e != f {
		t.Fatalf("%q has the errors %d and %d", s, e, f)
	}
	shape, e := Parse(s)
	if f != api.OK {
		if e != f || p != "" || short != "" {
			t.Errorf("Parse(%q) has the error %d, not %d", s, e, f)
		}
		return
	}
	for _, same := range []string{p, short} {
		if other, f := Parse(same); other != shape || e != f {
			t.Errorf("Parse(%q) is %+v, %d, but Parse(%q) is %+v, %d", s, shape, e, same, other, f)
		}
	}
	if e == api.OK {
		checked(t, shape, api.OK)
		sized(t, shape, shape.Size)
		if shape.Picture != p || shape.Usage != api.Display || shape.Leading || shape.Separate || shape.Just || shape.Blank {
			t.Errorf("Parse(%q) is %+v", s, shape)
		}
	}
	expandsTo(t, short, p)
	expandsTo(t, p, p)
	if len(short) > len(s) && !strings.Contains(s, "(0") {
		t.Errorf("Short(%q) is longer: %q", s, short)
	}
	if again, e := Short(short); e != api.OK || again != short {
		t.Errorf("Short(%q) is %q, %d", short, again, e)
	}
}

func TestConsequences(t *testing.T) {
	allOf("X9Z(1)", 5, func(s string) { consequences(t, s) })
	r := rand.New(rand.NewSource(65))
	for range 5000 {
		for _, l := range []string{"A", "AX9", "AX9B0/", "SVP9", "9", "9V", "Z9,", "$9.B", "+", "-.", chapterSymbols} {
			consequences(t, randomPicture(r, l, 1+r.Intn(6), []int{3, 12, 300}[r.Intn(3)]))
		}
	}
}

// P1: all functions end for all arguments, and do not panic.

func TestAnyArgument(t *testing.T) {
	r := rand.New(rand.NewSource(1))
	characters := chapterSymbols + "()123450 x\xff\x00"
	for range 50000 {
		b := make([]byte, r.Intn(12))
		for i := range b {
			b[i] = characters[r.Intn(len(characters))]
		}
		s := string(b)
		consequences(t, s)
		integer := func() int { return []int{0, 1, -1, 18, 19, len(s), math.MaxInt, math.MinInt}[r.Intn(8)] }
		shape := api.Shape{
			Category: api.Category(r.Intn(8)), Usage: api.Usage(r.Intn(4)), Picture: s, Digits: integer(), Scale: integer(), Signed: r.Intn(2) == 0,
			Leading: r.Intn(2) == 0, Separate: r.Intn(2) == 0, Just: r.Intn(2) == 0, Blank: r.Intn(2) == 0, Size: integer(),
		}
		n, e := Size(shape)
		if e != api.OK && (n != 0 || Check(shape) != e) {
			t.Errorf("Size(%+v) is %d, %d", shape, n, e)
		}
		if Check(shape) == api.OK && shape.Category != api.Group {
			if p, e := Parse(s); e != api.OK || p.Picture != s || shape.Size != n {
				t.Errorf("%+v has no error", shape)
			}
		}
	}
	for _, s := range []string{strings.Repeat("X", 1<<20), strings.Repeat("X(", 1<<19), strings.Repeat("X(99999)", 1<<17), strings.Repeat("(", 1<<20)} {
		consequences(t, s)
	}
}
