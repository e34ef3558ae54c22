package columns

import (
	"math/rand"
	"strings"
	"testing"

	"columnseven/api"
)

// P2.4

// randomText returns a text that Write accepts, with words, literals and spaces of many lengths.
func randomText(r *rand.Rand) string {
	run := func(letters string) string {
		n := r.Intn(12)
		if r.Intn(4) == 0 {
			n = r.Intn(150)
		}
		b := make([]byte, n)
		for i := range b {
			b[i] = letters[r.Intn(len(letters))]
		}
		return string(b)
	}
	s := "A"
	for range r.Intn(12) {
		switch r.Intn(4) {
		case 0:
			s += spaces(1 + r.Intn(4))
		case 1:
			s += run("ABC-*/D.")
		case 2:
			s += q + run("A  -*") + q
		case 3:
			s += q + run(" ") + run("B ") + q
		}
	}
	if r.Intn(2) == 0 {
		s = s[1:]
	}
	if s = strings.Trim(s, " "); s == "" {
		return "A"
	}
	return s
}

// collapse replaces consecutive spaces outside of quotes by one.
func collapse(s string) string {
	parts := strings.Split(s, q)
	for i := 0; i < len(parts); i += 2 {
		for strings.Contains(parts[i], "  ") {
			parts[i] = strings.ReplaceAll(parts[i], "  ", " ")
		}
	}
	return strings.Join(parts, q)
}

func TestReadOfWritten(t *testing.T) {
	r := rand.New(rand.NewSource(1))
	for i := range 20000 {
		x := Line{Left: i%2 == 0, Text: randomText(r)}
		source, e := Write([]Line{x})
		if e != api.OK {
			t.Fatalf("Write(%q) is %d", x.Text, e)
		}
		got, f := Read(source, i%3 == 0)
		if f != (api.Fault{}) || len(got) == 0 {
			t.Fatalf("%q: %v\n%s", x.Text, f, source)
		}
		var texts []string
		for j, c := range got {
			texts = append(texts, c.Text)
			if c.Left != (x.Left && j == 0) {
				t.Fatalf("%q: Left of card %d is %t\n%s", x.Text, j, c.Left, source)
			}
		}
		if joined := strings.Join(texts, " "); collapse(joined) != collapse(x.Text) {
			t.Fatalf("%q is read as %q\n%s", x.Text, joined, source)
		}
		checkShape(t, source)
		checkPositions(t, source, got)
	}
}

// checkShape checks that lines have no columns behind column 72, and are as full as they can be.
func checkShape(t *testing.T, source string) {
	t.Helper()
	rows := strings.Split(strings.TrimSuffix(source, "\n"), "\n")
	for i, l := range rows {
		if len(l) < 8 || len(l) > 72 {
			t.Fatalf("line %d has %d columns\n%s", i+1, len(l), source)
		}
		if l[6] == '-' && len(rows[i-1]) != 72 {
			t.Fatalf("line %d is continued before column 72\n%s", i, source)
		}
	}
}

// checkPositions checks that each byte of a card stands where At says, unless it was padded.
func checkPositions(t *testing.T, source string, l []Card) {
	t.Helper()
	rows := strings.Split(source, "\n")
	for _, c := range l {
		for i := range len(c.Text) + 1 {
			p, e := At(c, i)
			if e != api.OK {
				t.Fatalf("At(%+v, %d) is %d", c, i, e)
			}
			if i == len(c.Text) {
				continue
			}
			row := rows[p.Line-1]
			if p.Column <= len(row) && row[p.Column-1] != c.Text[i] || p.Column > len(row) && c.Text[i] != ' ' || p.Column < 8 || p.Column > 72 {
				t.Fatalf("%q at %d is not at %v\n%s", c.Text, i, p, source)
			}
		}
	}
}

// randomSource returns lines that Read takes, with short lines, literals that are padded, and ignored lines.
func randomSource(r *rand.Rand) []string {
	l := []string{at(' ', 8, "A")}
	open := false
	for range 1 + r.Intn(12) {
		text := strings.Trim(randomText(r), " ")
		indicator, column := byte(' '), 8+r.Intn(30)
		if open || r.Intn(3) == 0 {
			indicator, column = '-', 12+r.Intn(30)
		}
		if open {
			text = q + text
		}
		if r.Intn(3) == 0 {
			text += q + "XY"
		}
		row := at(indicator, column, text)
		row = row[:min(len(row), 72)]
		l = append(l, row)
		part := row[column-1:]
		if open {
			part = part[1:]
		}
		open = open != (strings.Count(part, q)%2 == 1)
	}
	if open {
		l = append(l, at('-', 12, q+q))
	}
	return l
}

func TestPositionsOfRead(t *testing.T) {
	r := rand.New(rand.NewSource(2))
	for range 5000 {
		source := lines(randomSource(r)...)
		got, f := Read(source, false)
		if f != (api.Fault{}) {
			t.Fatalf("%v\n%s", f, source)
		}
		checkPositions(t, source, got)
	}
}

// disguise changes columns without a meaning, and inserts ignored lines.
func disguise(r *rand.Rand, l []string) []string {
	random := func(n int) string {
		b := make([]byte, n)
		for i := range b {
			b[i] = `1 -*/D"X`[r.Intn(8)]
		}
		return string(b)
	}
	ignored := []string{"", "*", "      ", " ", "      *", "      / A", "      D    X", "      d", "      -", spaces(72)}
	var out []string
	for _, row := range l {
		for range r.Intn(3) {
			s := ignored[r.Intn(len(ignored))]
			if len(s) >= 6 {
				s = random(6) + s[6:]
			}
			if len(s) == 72 || len(s) > 6 && s[6] == '*' {
				s += random(8)
			}
			out = append(out, s)
		}
		row = random(6) + row[6:]
		if r.Intn(2) == 0 {
			row += spaces(72-len(row)) + random(8)
		}
		out = append(out, row)
	}
	return out
}

func TestIgnoredChangesNothing(t *testing.T) {
	r := rand.New(rand.NewSource(3))
	for range 5000 {
		l := randomSource(r)
		want, _ := Read(lines(l...), false)
		other := disguise(r, l)
		got, f := Read(lines(other...), false)
		if f != (api.Fault{}) || len(got) != len(want) {
			t.Fatalf("%d cards instead of %d, %v\n%s", len(got), len(want), f, lines(other...))
		}
		for i, c := range got {
			if c.Text != want[i].Text || c.Left != want[i].Left || len(c.Marks) != len(want[i].Marks) {
				t.Fatalf("%+v instead of %+v\n%s", c, want[i], lines(other...))
			}
			for j, m := range c.Marks {
				if w := want[i].Marks[j]; m.From != w.From || m.At.Column != w.At.Column || m.At.Line < w.At.Line {
					t.Fatalf("%+v instead of %+v\n%s", c, want[i], lines(other...))
				}
			}
		}
		checkPositions(t, lines(other...), got)
	}
}
