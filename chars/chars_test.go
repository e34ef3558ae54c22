package chars

import (
	"bytes"
	"math"
	"math/rand"
	"strings"
	"testing"

	"columnseven/api"
)

// oneByte returns the texts of one byte, in order.
func oneByte() []string {
	var l []string
	for c := range 256 {
		l = append(l, string([]byte{byte(c)}))
	}
	return l
}

// P1.1

func TestIsDigits(t *testing.T) {
	for s, want := range map[string]bool{
		"07": true, "0": true, "9": true, "0123456789": true, strings.Repeat("5", 100): true,
		"": false, "1A": false, "A1": false, " 1": false, "1 ": false, "-1": false, "+1": false, "1.5": false, "1\x00": false, "\u0663": false,
	} {
		if got := IsDigits(s); got != want {
			t.Errorf("IsDigits(%q) is %t", s, got)
		}
	}
	for _, s := range oneByte() {
		if got, want := IsDigits(s), strings.Contains("0123456789", s); got != want {
			t.Errorf("IsDigits(%q) is %t", s, got)
		}
	}
}

func TestIsName(t *testing.T) {
	for s, want := range map[string]bool{
		"A": true, "Z": true, "A-1": true, "1A": true, "1-A": true, "A--B": true, "0Z9": true, "12-3A": true,
		strings.Repeat("A", api.MaxName): true, strings.Repeat("1", api.MaxName-1) + "Z": true,
		"": false, "12": false, "1-2": false, "-": false, "--": false, "A-": false, "-A": false, "a": false, "Ab": false,
		"A B": false, " A": false, "A ": false, "A_B": false, "A.B": false, "A\x00": false, "\u00c4": false,
		strings.Repeat("A", api.MaxName+1): false, strings.Repeat("1", api.MaxName) + "A": false,
	} {
		if got := IsName(s); got != want {
			t.Errorf("IsName(%q) is %t", s, got)
		}
	}
	for _, s := range oneByte() {
		if got, want := IsName(s), strings.Contains("ABCDEFGHIJKLMNOPQRSTUVWXYZ", s); got != want {
			t.Errorf("IsName(%q) is %t", s, got)
		}
		if got, want := IsName("A"+s+"B"), strings.Contains("ABCDEFGHIJKLMNOPQRSTUVWXYZ0123456789-", s); got != want {
			t.Errorf("IsName(%q) is %t", "A"+s+"B", got)
		}
	}
}

func TestPrintable(t *testing.T) {
	for s, want := range map[string]bool{
		"": true, "A b~": true, strings.Repeat(" ", 200): true,
		"A\n": false, "\tA": false, "A\x1fB": false, "A\x7fB": false, "\u00e4": false,
	} {
		if got := Printable(s); got != want {
			t.Errorf("Printable(%q) is %t", s, got)
		}
	}
	for c, s := range oneByte() {
		if got, want := Printable(s), 32 <= c && c <= 126; got != want {
			t.Errorf("Printable(%q) is %t", s, got)
		}
	}
}

// P1.2

func TestFold(t *testing.T) {
	for s, want := range map[string]string{
		"": "", "aZ-9{": "AZ-9{", "abcdefghijklmnopqrstuvwxyz": "ABCDEFGHIJKLMNOPQRSTUVWXYZ",
		"\u00e4\u0131a": "\u00e4\u0131A", "a\xe4\xff\x00b": "A\xe4\xff\x00B",
	} {
		if got := Fold(s); got != want {
			t.Errorf("Fold(%q) is %q", s, got)
		}
	}
	for c, s := range oneByte() {
		want := s
		if 97 <= c && c <= 122 {
			want = string([]byte{byte(c - 32)})
		}
		if got := Fold(s); got != want {
			t.Errorf("Fold(%q) is %q", s, got)
		}
	}
}

// P1.3

func TestCompare(t *testing.T) {
	for _, x := range []struct {
		a, b string
		want int
	}{
		{"AB", "AB ", 0}, {"A", "A!", -1}, {"B", "A~", 1}, {"A", "A\x00", 1}, {"A", "A  \x1f", 1}, {"A", "A  !", -1},
		{"", "", 0}, {"", "   ", 0}, {"", "\x00", 1}, {"", "A", -1}, {"A", "B", -1}, {"ABC", "ABC", 0}, {"ABC", "ABD", -1},
		{"a", "A", 1}, {"9", "A", -1}, {"\x7f", "\x80", -1}, {"\xff", "\x00", 1}, {" A", "A", -1}, {"A B", "A", 1}, {"AB\x00", "AA\xff", 1},
	} {
		if got := Compare([]byte(x.a), []byte(x.b)); got != x.want {
			t.Errorf("Compare(%q, %q) is %d", x.a, x.b, got)
		}
		if got := Compare([]byte(x.b), []byte(x.a)); got != -x.want {
			t.Errorf("Compare(%q, %q) is %d", x.b, x.a, got)
		}
	}
	if Compare(nil, nil) != 0 || Compare(nil, []byte{}) != 0 || Compare(nil, []byte(" ")) != 0 {
		t.Error("nil is not the empty text")
	}
}

func TestCompareBytes(t *testing.T) {
	for a := range 256 {
		for b := range 256 {
			want := 0
			if a < b {
				want = -1
			} else if a > b {
				want = 1
			}
			if got := Compare([]byte{'X', byte(a)}, []byte{'X', byte(b)}); got != want {
				t.Fatalf("bytes %d and %d: %d", a, b, got)
			}
		}
		want := 0
		if a < 32 {
			want = -1
		} else if a > 32 {
			want = 1
		}
		if got := Compare([]byte{'X', byte(a)}, []byte("X")); got != want {
			t.Errorf("byte %d and padding: %d", a, got)
		}
	}
}

// P1.4

func TestFill(t *testing.T) {
	for _, x := range []struct {
		s    string
		n    int
		want string
		e    api.Errno
	}{
		{"ab", 5, "ababa", api.OK}, {"ab", 4, "abab", api.OK}, {"ab", 1, "a", api.OK}, {"ab", 0, "", api.OK}, {"x", 3, "xxx", api.OK},
		{"abc", 2, "ab", api.OK}, {"\x00\xff", 3, "\x00\xff\x00", api.OK}, {"", 0, "", api.OK},
		{"", 1, "", api.ErrWidth}, {"", api.MaxStore, "", api.ErrWidth},
		{"a", -1, "", api.ErrArg}, {"", -1, "", api.ErrArg}, {"a", math.MinInt, "", api.ErrArg},
		{"a", api.MaxStore + 1, "", api.ErrLimit}, {"", api.MaxStore + 1, "", api.ErrLimit}, {"a", math.MaxInt, "", api.ErrLimit},
	} {
		got, e := Fill([]byte(x.s), x.n)
		if string(got) != x.want || e != x.e {
			t.Errorf("Fill(%q, %d) is %q, %d", x.s, x.n, got, e)
		}
		checkNew(t, []byte(x.s), got)
	}
	if got, e := Fill(nil, 0); len(got) != 0 || e != api.OK {
		t.Errorf("%q, %d", got, e)
	}
	if got, e := Fill([]byte("ab"), api.MaxStore); e != api.OK || string(got) != strings.Repeat("ab", api.MaxStore/2) {
		t.Errorf("the longest filling: %d bytes, %d", len(got), e)
	}
	if got, e := Fill(bytes.Repeat([]byte("x"), api.MaxStore+1), api.MaxStore); e != api.OK || len(got) != api.MaxStore {
		t.Errorf("a longer text: %d bytes, %d", len(got), e)
	}
}

// P1.5

func TestFit(t *testing.T) {
	for _, x := range []struct {
		s    string
		n    int
		left bool
		want string
		e    api.Errno
	}{
		{"abc", 5, false, "abc  ", api.OK}, {"abc", 2, false, "ab", api.OK}, {"abc", 5, true, "  abc", api.OK}, {"abc", 2, true, "bc", api.OK},
		{"abc", 3, false, "abc", api.OK}, {"abc", 3, true, "abc", api.OK}, {"abc", 0, false, "", api.OK}, {"abc", 0, true, "", api.OK},
		{"", 0, false, "", api.OK}, {"", 0, true, "", api.OK}, {"", 2, false, "  ", api.OK}, {"", 2, true, "  ", api.OK},
		{" a ", 2, false, " a", api.OK}, {" a ", 2, true, "a ", api.OK}, {"\x00\xff", 3, true, " \x00\xff", api.OK},
		{"abc", -1, false, "", api.ErrArg}, {"abc", -1, true, "", api.ErrArg}, {"", math.MinInt, true, "", api.ErrArg},
		{"abc", api.MaxStore + 1, false, "", api.ErrLimit}, {"abc", api.MaxStore + 1, true, "", api.ErrLimit}, {"abc", math.MaxInt, true, "", api.ErrLimit},
	} {
		got, e := Fit([]byte(x.s), x.n, x.left)
		if string(got) != x.want || e != x.e {
			t.Errorf("Fit(%q, %d, %t) is %q, %d", x.s, x.n, x.left, got, e)
		}
		checkNew(t, []byte(x.s), got)
	}
	if got, e := Fit(nil, 1, true); string(got) != " " || e != api.OK {
		t.Errorf("%q, %d", got, e)
	}
}

func TestFitLongest(t *testing.T) {
	long := bytes.Repeat([]byte("x"), api.MaxStore+1)
	long[0], long[api.MaxStore] = '<', '>'
	if got, e := Fit(long, api.MaxStore, false); e != api.OK || !bytes.Equal(got, long[:api.MaxStore]) {
		t.Errorf("%d bytes, %d", len(got), e)
	}
	if got, e := Fit(long, api.MaxStore, true); e != api.OK || !bytes.Equal(got, long[1:]) {
		t.Errorf("%d bytes, %d", len(got), e)
	}
}

// P1.6

func TestTrim(t *testing.T) {
	for s, want := range map[string]string{
		"": "", " ": "", "     ": "", " a  ": " a", "a": "a", "ab": "ab", "a b ": "a b",
		"a\x00 ": "a\x00", "a\t ": "a\t", "a\n": "a\n", "a\u00a0": "a\u00a0",
	} {
		got := Trim([]byte(s))
		if string(got) != want {
			t.Errorf("Trim(%q) is %q", s, got)
		}
		checkNew(t, []byte(s), got)
	}
	if got := Trim(nil); len(got) != 0 {
		t.Errorf("%q", got)
	}
}

// P1.7

// samples returns texts in which padding, cutting and order meet, with many that are equal but for spaces.
func samples() [][]byte {
	r := rand.New(rand.NewSource(1))
	l := [][]byte{nil, []byte(" "), []byte("  "), {0}, {31}, {33}, {255}}
	for range 60 {
		b := make([]byte, r.Intn(6))
		for i := range b {
			b[i] = "  !\x00A\xff"[r.Intn(6)]
		}
		l = append(l, b)
	}
	return l
}

func TestCompareIsOrderOfFitted(t *testing.T) {
	for _, a := range samples() {
		for _, b := range samples() {
			n := max(len(a), len(b))
			x, _ := Fit(a, n, false)
			y, _ := Fit(b, n, false)
			if got, want := Compare(a, b), bytes.Compare(x, y); got != want || Compare(b, a) != -want {
				t.Fatalf("Compare(%q, %q) is %d", a, b, got)
			}
			if same := bytes.Equal(Trim(a), Trim(b)); same != (Compare(a, b) == 0) {
				t.Fatalf("%q and %q: the same but for spaces: %t", a, b, same)
			}
		}
	}
}

func TestCompareIsTransitive(t *testing.T) {
	l := samples()
	for _, a := range l {
		for _, b := range l {
			for _, c := range l {
				if Compare(a, b) <= 0 && Compare(b, c) <= 0 && Compare(a, c) > 0 {
					t.Fatalf("%q, %q, %q", a, b, c)
				}
			}
		}
	}
}

func TestFoldTwice(t *testing.T) {
	for _, s := range append(oneByte(), "abc", "ABC", "a1-Z", "\u00e4{`@[") {
		if Fold(Fold(s)) != Fold(s) {
			t.Errorf("%q", s)
		}
		if IsName(s) && !IsName(Fold(s)) {
			t.Errorf("%q is a name, folded it is not", s)
		}
	}
}

func TestFitOfTrimmed(t *testing.T) {
	for _, a := range samples() {
		if got, e := Fit(Trim(a), len(a), false); e != api.OK || !bytes.Equal(got, a) {
			t.Errorf("%q: %q, %d", a, got, e)
		}
	}
}

// checkNew checks that a result has no room behind it, in which an append of its caller would write.
func checkNew(t *testing.T, from, got []byte) {
	t.Helper()
	if cap(got) != len(got) {
		t.Errorf("of %q: %d bytes with a capacity of %d", from, len(got), cap(got))
	}
}

func TestResultsShareNoMemory(t *testing.T) {
	for name, call := range map[string]func(b []byte) []byte{
		"Fill": func(b []byte) []byte { l, _ := Fill(b, len(b)); return l },
		"Fit":  func(b []byte) []byte { l, _ := Fit(b, len(b), false); return l },
		"left": func(b []byte) []byte { l, _ := Fit(b, len(b), true); return l },
		"Trim": Trim,
	} {
		b := []byte("some text")
		got := call(b)
		if string(b) != "some text" {
			t.Errorf("%s changes its argument", name)
		}
		got[0] = 'X'
		if string(b) != "some text" {
			t.Errorf("%s returns its argument", name)
		}
		b[1] = 'Y'
		if string(got) != "Xome text" {
			t.Errorf("%s keeps its argument", name)
		}
	}
}

func TestErrorsHaveNoResult(t *testing.T) {
	for _, n := range []int{-1, api.MaxStore + 1} {
		if got, _ := Fill([]byte("a"), n); got != nil {
			t.Errorf("Fill to %d: %q", n, got)
		}
		if got, _ := Fit([]byte("a"), n, false); got != nil {
			t.Errorf("Fit to %d: %q", n, got)
		}
	}
	if got, _ := Fill(nil, 1); got != nil {
		t.Errorf("%q", got)
	}
}
