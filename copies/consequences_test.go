package copies

import (
	"math/rand"
	"reflect"
	"slices"
	"strings"
	"testing"

	"columnseven/api"
	"columnseven/tokens"
)

// The names of random members, and the parts of which random texts consist.
var (
	memberNames = []string{"M1", "M2", "M3", "M4", "M5"}
	plainParts  = []string{"A", "B", "A B", "1", `"A"`, "A.", ".", "( B )", "PIC X(3).", "REPLACING", "BY", "== A ==", "====", "M1"}
	replacings  = []string{"", "", " REPLACING A BY B", " REPLACING ==A B== BY ==B A A==", ` REPLACING 1 BY "A" B BY ====`, " REPLACING ==PIC X(3) == BY B B BY C", " REPLACING B BY ==COPY A==", " REPLACING ==A . == BY A"}
)

// pick returns one of the elements of a list.
func pick(r *rand.Rand, l []string) string { return l[r.Intn(len(l))] }

// randomCopy returns a COPY statement.
func randomCopy(r *rand.Rand, names, with []string) string {
	name := pick(r, names)
	if r.Intn(3) == 0 {
		name = `"` + name + `"`
	}
	return "COPY " + name + pick(r, with) + "."
}

// randomText returns a text of up to n parts; the names are those of the members that it may copy, if there are any.
func randomText(r *rand.Rand, n int, names, with []string) string {
	var out []string
	for range r.Intn(n + 1) {
		if len(names) > 0 && r.Intn(4) == 0 {
			out = append(out, randomCopy(r, names, with))
		} else {
			out = append(out, pick(r, plainParts))
		}
	}
	return strings.Join(out, " ")
}

// randomMembers returns members in a random order. Each one copies only those with a greater number, unless there may be loops.
func randomMembers(t *testing.T, r *rand.Rand, loops bool, with []string) []Member {
	t.Helper()
	var out []Member
	for i, name := range memberNames {
		names := memberNames[i+1:]
		if loops && r.Intn(3) == 0 {
			names = append([]string{"NONE"}, memberNames...)
		}
		out = append(out, Member{Name: name, Tokens: inLine(t, 10+i, randomText(r, 8, names, with))})
	}
	r.Shuffle(len(out), func(i, j int) { out[i], out[j] = out[j], out[i] })
	return out
}

// find returns the tokens of a member.
func find(l []Member, name string) []api.Token {
	i := slices.IndexFunc(l, func(m Member) bool { return m.Name == name })
	return l[i].Tokens
}

// P4.4

func TestListWithoutCopyRemains(t *testing.T) {
	r := rand.New(rand.NewSource(1))
	for range 5000 {
		l, m := list(t, randomText(r, 20, nil, nil)), randomMembers(t, r, true, replacings)
		got, n, f := Expand(l, m)
		if f != (api.Fault{}) || len(n) != 0 || !slices.Equal(got, l) {
			t.Fatalf("%s: %s, %q, %v", tokens.Text(l), tokens.Text(got), n, f)
		}
		if n, f := Uses(l); f != (api.Fault{}) || len(n) != 0 {
			t.Fatalf("%s: %q, %v", tokens.Text(l), n, f)
		}
	}
}

func TestNoCopyRemains(t *testing.T) {
	r := rand.New(rand.NewSource(2))
	count := 0
	for range 10000 {
		l, m := list(t, randomText(r, 12, memberNames, []string{""})), randomMembers(t, r, true, []string{""})
		got, n, f := Expand(l, m)
		if f != (api.Fault{}) {
			continue
		}
		if len(n) > 0 {
			count++
		}
		if findCopy(got) >= 0 {
			t.Fatalf("%s: %s", tokens.Text(l), tokens.Text(got))
		}
	}
	if count < 2000 {
		t.Errorf("only %d of the lists have members", count)
	}
}

// metNames appends the names of the members that a list uses, and those that these use, as they are met first.
func metNames(t *testing.T, l []api.Token, m []Member, met []string) []string {
	t.Helper()
	names, f := Uses(l)
	if f != (api.Fault{}) {
		t.Fatalf("%s: %v", tokens.Text(l), f)
	}
	for _, name := range names {
		if !slices.Contains(met, name) {
			met = metNames(t, find(m, name), m, append(met, name))
		}
	}
	return met
}

func TestNamesAreThoseOfUses(t *testing.T) {
	r := rand.New(rand.NewSource(3))
	for range 10000 {
		l, m := list(t, randomText(r, 12, memberNames, replacings)), randomMembers(t, r, false, replacings)
		_, n, f := Expand(l, m)
		if want := metNames(t, l, m, nil); f != (api.Fault{}) || !slices.Equal(n, want) {
			t.Fatalf("%s: %q, %v instead of %q", tokens.Text(l), n, f, want)
		}
	}
}

func TestReplacementByTheSame(t *testing.T) {
	r := rand.New(rand.NewSource(4))
	for range 10000 {
		m := randomMembers(t, r, false, replacings)
		x := pick(r, []string{"A", "1", `"A"`, "==A B==", "==A. ==", "==PIC X(3). ==", "==COPY A=="})
		plain, _, f := Expand(list(t, "COPY M1."), m)
		got, _, g := Expand(list(t, "COPY M1 REPLACING "+x+" BY "+x+"."), m)
		if f != (api.Fault{}) || g != (api.Fault{}) || !tokens.Same(plain, got) {
			t.Fatalf("%s: %s, %v, not %s, %v", x, tokens.Text(got), g, tokens.Text(plain), f)
		}
		old := list(t, strings.ReplaceAll(x, "==", " "))
		got, e := Replace(plain, []Replacement{{Old: old, New: slices.Clone(old)}})
		if e != api.OK || !tokens.Same(plain, got) {
			t.Fatalf("%s: %s, %d, not %s", x, tokens.Text(got), e, tokens.Text(plain))
		}
	}
}

// The parts of a list, and the members in it, are expanded independently of each other, and a member's replacements are performed behind that.
func TestExpandIsMadeOfParts(t *testing.T) {
	r := rand.New(rand.NewSource(5))
	for range 10000 {
		m := randomMembers(t, r, false, replacings)
		expand := func(l []api.Token) []api.Token {
			out, _, f := Expand(l, m)
			if f != (api.Fault{}) {
				t.Fatalf("%s: %v", tokens.Text(l), f)
			}
			return out
		}
		front, back := list(t, randomText(r, 6, memberNames, replacings)), list(t, randomText(r, 6, memberNames, replacings))
		name := pick(r, memberNames)
		in, e := Replace(expand(find(m, name)), changes(t, "A", "B A", "B", "COPY"))
		got := expand(slices.Concat(front, list(t, "COPY "+name+" REPLACING A BY ==B A== B BY COPY."), back))
		if want := slices.Concat(expand(front), in, expand(back)); e != api.OK || !tokens.Same(got, want) {
			t.Fatalf("%s of %s: %s instead of %s", name, tokens.Text(find(m, name)), tokens.Text(got), tokens.Text(want))
		}
	}
}

// randomTokens returns tokens of any kinds; many of them belong to COPY statements.
func randomTokens(r *rand.Rand) []api.Token {
	all := []api.Token{tok(api.Word, "COPY"), tok(api.Word, "COPY"), tok(api.Word, "M1"), tok(api.Quote, "M2"), tok(api.Word, "REPLACING"), tok(api.Word, "BY"), tok(api.Pseudo, "=="), tok(api.Period, "."), tok(api.Period, ""), tok(api.Number, "1"), tok(api.Sign, "("), tok(api.Picture, "M1"), tok(0, ""), tok(99, "COPY")}
	out := make([]api.Token, r.Intn(12))
	for i := range out {
		out[i] = all[r.Intn(len(all))]
		out[i].At = pos(r.Intn(5)-1, i+1)
	}
	return out
}

// P1: any tokens have a result, or a fault at one of them.
func TestAnyTokens(t *testing.T) {
	r := rand.New(rand.NewSource(6))
	expanded := 0
	for range 200000 {
		l := randomTokens(r)
		m := []Member{{Name: "M1", Tokens: randomTokens(r)}, {Name: "M2", Tokens: randomTokens(r)}}
		kept := slices.Clone(l)
		got, n, f := Expand(l, m)
		if f == (api.Fault{}) && len(n) > 0 {
			expanded++
		}
		isThere := func(x api.Token) bool { return x.At == f.At }
		if f != (api.Fault{}) && (len(got) != 0 || len(n) != 0 || f.E == api.OK || !slices.ContainsFunc(slices.Concat(l, m[0].Tokens, m[1].Tokens), isThere)) {
			t.Fatalf("%v: %v, %q, %v", l, got, n, f)
		}
		named, g := Uses(l)
		if g != (api.Fault{}) && (len(named) != 0 || g.E != api.ErrForm || f == (api.Fault{})) || g == (api.Fault{}) && f == (api.Fault{}) && (len(n) < len(named)) {
			t.Fatalf("%v: %q, %v, but %v", l, named, g, f)
		}
		if _, e := Replace(l, []Replacement{{Old: m[0].Tokens, New: m[1].Tokens}}); (e == api.ErrArg) != (len(m[0].Tokens) == 0) {
			t.Fatalf("%v, %v: %d", l, m, e)
		}
		if !reflect.DeepEqual(l, kept) {
			t.Fatalf("%v instead of %v", l, kept)
		}
	}
	if expanded < 100 {
		t.Errorf("only %d of the lists have members", expanded)
	}
}
