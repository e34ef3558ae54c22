package words

import (
	"slices"
	"strings"
	"testing"

	"columnseven/api"
	"columnseven/chars"
)

// strange returns texts that are not reserved words.
func strange() []string {
	l := []string{
		"", " ", "\n", "-", "A", "X", "Z", "TOTAL", "FOO", "1", "12", "MOVE-1", "END-", "END-MOVE", "ZEROE", "ZEROESS", "COMP-1", "COMP-4",
		"REMARKS", "move", "Move", "to", "spaces", "zero", "ADD ALTER", "ADD\nALTER", "BEFORE\nBINARY", "ACCEPT ADD ALTER", "SPACE SPACES",
		"MOVE\x00", "\x00MOVE", "\u00c4DD", "\u0130F", "\xff", strings.Repeat("A", 1000), strings.Repeat("MOVE ", 1000),
	}
	reserved := chapterClasses()
	for s := range reserved {
		for _, x := range []string{s[1:], s[:len(s)-1], s + "S", s + " ", " " + s, s + "\n", "\n" + s, s + "-", "-" + s, s + s, strings.ToLower(s)} {
			if _, ok := reserved[x]; !ok {
				l = append(l, x)
			}
		}
	}
	slices.Sort(l)
	return slices.Compact(l)
}

// P5.1

func TestClasses(t *testing.T) {
	if Name != 0 || Key != 1 || Verb != 2 || Figurative != 3 {
		t.Error(Name, Key, Verb, Figurative)
	}
}

func TestOf(t *testing.T) {
	for s, want := range map[string]Class{"MOVE": Verb, "TO": Key, "SPACES": Figurative, "TOTAL": Name, "move": Name, "": Name} {
		if got := Of(s); got != want {
			t.Errorf("Of(%q) is %d", s, got)
		}
	}
	for s, want := range chapterClasses() {
		if got := Of(s); got != want {
			t.Errorf("Of(%q) is %d, not %d", s, got, want)
		}
	}
	for _, s := range strange() {
		if got := Of(s); got != Name {
			t.Errorf("Of(%q) is %d", s, got)
		}
	}
}

func TestAll(t *testing.T) {
	want := chapterWords()
	for range 2 {
		got := All()
		if !slices.Equal(got, want) {
			t.Fatalf("All returns %q", got)
		}
		if len(got) != 262 || cap(got) != len(got) {
			t.Errorf("%d words, capacity %d", len(got), cap(got))
		}
		// What is changed here must not be there at the next call.
		clear(got)
	}
}

// P5.2

func TestByte(t *testing.T) {
	for s, want := range chapterBytes() {
		if got, ok := Byte(s); got != want || !ok {
			t.Errorf("Byte(%q) is %d, %t", s, got, ok)
		}
	}
	others := append(strange(), "ALL", "FILLER", "MOVE", "NULL", "NULLS")
	for s, c := range chapterClasses() {
		if c != Figurative {
			others = append(others, s)
		}
	}
	for _, s := range others {
		if got, ok := Byte(s); got != 0 || ok {
			t.Errorf("Byte(%q) is %d, %t", s, got, ok)
		}
	}
}

// P5.4

func TestWordsConsequences(t *testing.T) {
	l := All()
	seen := map[string]bool{}
	for _, s := range l {
		if s == "" || strings.Trim(s, "ABCDEFGHIJKLMNOPQRSTUVWXYZ0123456789-") != "" || !strings.ContainsAny(s, "ABCDEFGHIJKLMNOPQRSTUVWXYZ") {
			t.Errorf("%q has other characters, or no letter", s)
		}
		if !chars.IsName(s) {
			t.Errorf("%q is not a name, so that no token can be this word", s)
		}
		if seen[s] {
			t.Errorf("%q stands there twice", s)
		}
		seen[s] = true
		c := Of(s)
		if c == Name {
			t.Errorf("%q is not reserved", s)
		}
		_, ok := Byte(s)
		_, e := Literal(api.Token{Kind: api.Word, Text: s})
		if constant := c == Figurative; ok != constant || (e == api.OK) != constant {
			t.Errorf("%q has the class %d, but Byte returns %t and Literal %d", s, c, ok, e)
		}
	}
	if !slices.IsSorted(l) {
		t.Errorf("not in ascending order: %q", l)
	}
}
