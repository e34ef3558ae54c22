package words

import (
	"bytes"
	"math/big"
	"math/rand"
	"strings"
	"testing"

	"columnseven/api"
)

// sameField reports whether a field has a shape and bytes, and no spare capacity.
func sameField(f api.Field, s api.Shape, b string) bool {
	return f.Shape == s && string(f.Bytes) == b && cap(f.Bytes) == len(f.Bytes)
}

// numberShape returns the shape of a number; its size is that of its digits.
func numberShape(picture string, digits, scale int, signed bool) api.Shape {
	return api.Shape{Category: api.Numeric, Usage: api.Display, Picture: picture, Digits: digits, Scale: scale, Signed: signed, Size: digits}
}

// textShape returns the shape of a text of n bytes.
func textShape(n int) api.Shape {
	return api.Shape{Category: api.Alphanumeric, Usage: api.Display, Picture: strings.Repeat("X", n), Size: n}
}

// refused checks that a token has an error, and no field with it.
func refused(t *testing.T, x api.Token, want api.Errno) {
	t.Helper()
	f, e := Literal(x)
	if e != want || f.Shape != (api.Shape{}) || len(f.Bytes) != 0 {
		t.Errorf("Literal(%v) is %v, %d, not %d", x, f, e, want)
	}
}

// P5.3

func TestNumbers(t *testing.T) {
	nines := strings.Repeat("9", api.MaxDigits)
	for _, x := range []struct {
		text, picture string
		digits, scale int
		signed        bool
		bytes         string
	}{
		{"-1.50", "S9V99", 3, 2, true, "15}"},
		{"007", "999", 3, 0, false, "007"},
		{"+.5", "SV9", 1, 1, true, "E"},
		{"0", "9", 1, 0, false, "0"},
		{"+0", "S9", 1, 0, true, "{"},
		{"-0", "S9", 1, 0, true, "}"},
		{".0", "V9", 1, 1, false, "0"},
		{"0.0", "9V9", 2, 1, false, "00"},
		{"1.5", "9V9", 2, 1, false, "15"},
		{"-.005", "SV999", 3, 3, true, "00N"},
		{"+12", "S99", 2, 0, true, "1B"},
		{"-12", "S99", 2, 0, true, "1K"},
		{nines, nines, 18, 0, false, nines},
		{"." + nines, "V" + nines, 18, 18, false, nines},
		{"-" + nines[:9] + "." + nines[9:], "S" + nines[:9] + "V" + nines[9:], 18, 9, true, nines[1:] + "R"},
		{"+" + nines[1:] + ".0", "S" + nines[1:] + "V9", 18, 1, true, nines[1:] + "{"},
	} {
		f, e := Literal(api.Token{Kind: api.Number, Text: x.text})
		if e != api.OK || !sameField(f, numberShape(x.picture, x.digits, x.scale, x.signed), x.bytes) {
			t.Errorf("the Number %s is %v, %d", x.text, f, e)
		}
	}
}

func TestOverpunch(t *testing.T) {
	for i := range 10 {
		digit := "0123456789"[i : i+1]
		for sign, last := range map[string]string{"": digit, "+": "{ABCDEFGHI"[i : i+1], "-": "}JKLMNOPQR"[i : i+1]} {
			f, e := Literal(api.Token{Kind: api.Number, Text: sign + digit})
			if e != api.OK || string(f.Bytes) != last {
				t.Errorf("the Number %s%s has the bytes %q, %d", sign, digit, f.Bytes, e)
			}
			f, e = Literal(api.Token{Kind: api.Number, Text: sign + digit + "." + digit})
			if e != api.OK || string(f.Bytes) != digit+last {
				t.Errorf("the Number %s%s.%s has the bytes %q, %d", sign, digit, digit, f.Bytes, e)
			}
		}
	}
}

func TestNumberErrors(t *testing.T) {
	long := strings.Repeat("1", api.MaxDigits+1)
	for _, s := range []string{
		"", "+", "-", ".", "+.", "-.", "5.", "-5.", "..5", "1..5", "1.5.", "1.5.2", "+-5", "--5", "++5", "5+", "5-", "1.-5", "-+.5",
		" 5", "5 ", "- 5", "1 5", "1. 5", "1,5", "A", "1A", "ZERO", "1E5", "0x1", "1_0", "\x00", "5\x00", "\u0665", "\u22125", "\xff",
		long + ".", long + "A", "-" + long + ".", long + "." + long + ".", strings.Repeat(".", 1000),
	} {
		refused(t, api.Token{Kind: api.Number, Text: s}, api.ErrForm)
	}
	for _, s := range []string{
		long, "+" + long, "-" + long, "." + long, long[1:] + ".1", "-." + long, "0" + long[1:], "-" + long[2:] + ".00",
		strings.Repeat("0", api.MaxDigits+1), strings.Repeat("7", 10000), "1." + strings.Repeat("0", 10000),
	} {
		refused(t, api.Token{Kind: api.Number, Text: s}, api.ErrWidth)
	}
}

func TestQuotes(t *testing.T) {
	var all []byte
	for c := range 256 {
		all = append(all, byte(c))
	}
	for _, s := range []string{
		"AB", "A", " ", "   ", "\"", "B\"C", "ZERO", "HIGH-VALUES", "MOVE", "12", "-1.50", "5.", "ab\x00\xff", "\u00e4",
		string(all), strings.Repeat("Z", 31), strings.Repeat("Z", api.MaxPicture-1), strings.Repeat("Z", api.MaxPicture),
	} {
		f, e := Literal(api.Token{Kind: api.Quote, Text: s})
		if e != api.OK || !sameField(f, textShape(len(s)), s) {
			t.Errorf("the Quote %q is %v, %d", s, f, e)
		}
	}
	for _, s := range []string{"", strings.Repeat("Z", api.MaxPicture+1), strings.Repeat(" ", 100000)} {
		refused(t, api.Token{Kind: api.Quote, Text: s}, api.ErrWidth)
	}
}

func TestFiguratives(t *testing.T) {
	for s, b := range chapterBytes() {
		f, e := Literal(api.Token{Kind: api.Word, Text: s})
		shape := textShape(1)
		if b == '0' {
			shape = numberShape("9", 1, 0, false)
		}
		if e != api.OK || !sameField(f, shape, string([]byte{b})) {
			t.Errorf("the Word %s is %v, %d", s, f, e)
		}
	}
}

func TestOtherWords(t *testing.T) {
	for _, s := range append(strange(), "A", "ALL", "MOVE", "5", "-1.50", ".", "\"") {
		refused(t, api.Token{Kind: api.Word, Text: s}, api.ErrWord)
	}
	for s, c := range chapterClasses() {
		if c != Figurative {
			refused(t, api.Token{Kind: api.Word, Text: s}, api.ErrWord)
		}
	}
}

func TestOtherKinds(t *testing.T) {
	for k := range 256 {
		kind := api.Kind(k)
		if kind == api.Word || kind == api.Number || kind == api.Quote {
			continue
		}
		for _, s := range []string{"", "ZERO", "5", "5.", "A", ".", "MOVE", strings.Repeat("Z", api.MaxPicture+1)} {
			refused(t, api.Token{Kind: kind, Text: s}, api.ErrKind)
		}
	}
}

func TestPlaceOfLiteral(t *testing.T) {
	for kind, s := range map[api.Kind]string{api.Number: "-5", api.Quote: "AB", api.Word: "ZERO"} {
		f, e := Literal(api.Token{Kind: kind, Text: s})
		for _, x := range []api.Token{{At: api.Pos{Line: 3, Column: 8}, Left: true}, {At: api.Pos{Line: -1, Column: -1}}} {
			x.Kind, x.Text = kind, s
			if g, e2 := Literal(x); e != api.OK || e2 != api.OK || !sameField(g, f.Shape, string(f.Bytes)) {
				t.Errorf("%v is %v, %d", x, g, e2)
			}
		}
		// What is changed here must not be there at the next call.
		clear(f.Bytes)
		if g, _ := Literal(api.Token{Kind: kind, Text: s}); bytes.Equal(f.Bytes, g.Bytes) {
			t.Errorf("%s returns the same memory again", s)
		}
	}
}

// P5.4

// readField reads the number of a field from its bytes and its shape alone.
func readField(f api.Field) *big.Rat {
	var digits, sign string
	for i, c := range string(f.Bytes) {
		at := -1
		if f.Shape.Signed && i == len(f.Bytes)-1 {
			if at = strings.IndexRune("{ABCDEFGHI", c); at < 0 {
				at = strings.IndexRune("}JKLMNOPQR", c)
				sign = "-"
			}
		} else {
			at = strings.IndexRune("0123456789", c)
		}
		if at < 0 {
			return nil
		}
		digits += "0123456789"[at : at+1]
	}
	whole := f.Shape.Digits - f.Shape.Scale
	n, ok := new(big.Rat).SetString(sign + "0" + digits[:whole] + "." + digits[whole:] + "0")
	if !ok {
		return nil
	}
	return n
}

// randomNumber returns the text of a number without a sign.
func randomNumber(r *rand.Rand) string {
	n := 1 + r.Intn(api.MaxDigits)
	b := make([]byte, n)
	for i := range b {
		b[i] = '0' + byte(r.Intn(10))
	}
	if at := r.Intn(n + 1); at < n {
		return string(b[:at]) + "." + string(b[at:])
	}
	return string(b)
}

func TestNumberIsRead(t *testing.T) {
	for s, want := range map[string]*big.Rat{
		"-1.50": big.NewRat(-3, 2), "007": big.NewRat(7, 1), "+.5": big.NewRat(1, 2), "-0": big.NewRat(0, 1), "-.019": big.NewRat(-19, 1000),
	} {
		f, e := Literal(api.Token{Kind: api.Number, Text: s})
		if got := readField(f); e != api.OK || got == nil || got.Cmp(want) != 0 {
			t.Errorf("%s is read as %v, %d", s, got, e)
		}
	}
}

func TestNumberConsequences(t *testing.T) {
	r := rand.New(rand.NewSource(5))
	for range 5000 {
		s := randomNumber(r)
		plain, _ := Literal(api.Token{Kind: api.Number, Text: s})
		for _, sign := range []string{"", "+", "-"} {
			f, e := Literal(api.Token{Kind: api.Number, Text: sign + s})
			want, _ := new(big.Rat).SetString(sign + "0" + s)
			if e != api.OK || f.Shape.Size != len(f.Bytes) {
				t.Fatalf("%s%s: %v, %d", sign, s, f, e)
			}
			if got := readField(f); got == nil || got.Cmp(want) != 0 {
				t.Fatalf("%s%s is read as %v", sign, s, got)
			}
			last := len(f.Bytes) - 1
			if !bytes.Equal(f.Bytes[:last], plain.Bytes[:last]) || (f.Bytes[last] == plain.Bytes[last]) != (sign == "") {
				t.Fatalf("%s%s: %q and %q", sign, s, f.Bytes, plain.Bytes)
			}
			shape := plain.Shape
			if sign != "" {
				shape.Signed, shape.Picture = true, "S"+shape.Picture
			}
			if f.Shape != shape {
				t.Fatalf("%s%s: %v, not %v", sign, s, f.Shape, shape)
			}
		}
	}
}

// P1

func TestAnyTokens(t *testing.T) {
	r := rand.New(rand.NewSource(6))
	const alphabet = "0123456789.+-AZEROS \"\x00\xff"
	for range 20000 {
		b := make([]byte, r.Intn(24))
		for i := range b {
			b[i] = alphabet[r.Intn(len(alphabet))]
		}
		x := api.Token{Kind: api.Kind(r.Intn(9)), Text: string(b)}
		f, e := Literal(x)
		if e != api.OK {
			refused(t, x, e)
		} else if f.Shape.Size != len(f.Bytes) || len(f.Bytes) == 0 || cap(f.Bytes) != len(f.Bytes) {
			t.Fatalf("%v: %v", x, f)
		}
		Of(x.Text)
		Byte(x.Text)
	}
}
