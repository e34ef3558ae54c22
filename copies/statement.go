package copies

import (
	"slices"

	"columnseven/api"
)

// statement is a COPY statement.
type statement struct {
	name         api.Token
	replacements []Replacement
}

func isWord(t api.Token, text string) bool { return t.Kind == api.Word && t.Text == text }

func isName(t api.Token) bool { return t.Kind == api.Word || t.Kind == api.Quote }

// isPlain reports whether a token is an operand without Pseudos around it.
func isPlain(t api.Token) bool { return isName(t) || t.Kind == api.Number }

func isPseudo(t api.Token) bool { return t.Kind == api.Pseudo }

func isInPseudo(t api.Token) bool { return !isPseudo(t) }

func isPeriod(t api.Token) bool { return t.Kind == api.Period }

// findCopy returns the index of the first word COPY, or -1.
func findCopy(l []api.Token) int {
	return slices.IndexFunc(l, func(t api.Token) bool { return isWord(t, "COPY") })
}

// reader reads a COPY statement. Its methods tell whether the tokens fit; if not, it has stopped in front of the first one that does not.
type reader struct {
	rest []api.Token // what is not read yet
}

// sees reports whether there is a next token, and it is a wanted one.
func (r *reader) sees(wanted func(api.Token) bool) bool {
	return len(r.rest) > 0 && wanted(r.rest[0])
}

// take passes the next token if it is a wanted one.
func (r *reader) take(wanted func(api.Token) bool) (api.Token, bool) {
	if !r.sees(wanted) {
		return api.Token{}, false
	}
	t := r.rest[0]
	r.rest = r.rest[1:]
	return t, true
}

// skip passes the next token if it is a word.
func (r *reader) skip(text string) bool {
	_, ok := r.take(func(t api.Token) bool { return isWord(t, text) })
	return ok
}

// operand reads an operand; filled tells that it must have tokens.
func (r *reader) operand(filled bool) ([]api.Token, bool) {
	if t, ok := r.take(isPlain); ok {
		return []api.Token{t}, true
	}
	if _, ok := r.take(isPseudo); !ok {
		return nil, false
	}
	var l []api.Token
	for r.sees(isInPseudo) {
		l = append(l, r.rest[0])
		r.rest = r.rest[1:]
	}
	if filled && len(l) == 0 {
		return nil, false
	}
	_, ok := r.take(isPseudo)
	return l, ok
}

// pair reads two operands.
func (r *reader) pair() (Replacement, bool) {
	before, ok := r.operand(true)
	if !ok || !r.skip("BY") {
		return Replacement{}, false
	}
	after, ok := r.operand(false)
	return Replacement{Old: before, New: after}, ok
}

// statement reads what follows the word COPY.
func (r *reader) statement() (statement, bool) {
	name, ok := r.take(isName)
	if !ok {
		return statement{}, false
	}
	s := statement{name: name}
	if r.skip("REPLACING") {
		for len(s.replacements) == 0 || !r.sees(isPeriod) {
			p, ok := r.pair()
			if !ok {
				return statement{}, false
			}
			s.replacements = append(s.replacements, p)
		}
	}
	_, ok = r.take(isPeriod)
	return s, ok
}

// readStatement returns the COPY statement at the beginning of a list, where the word COPY stands, and the tokens behind it.
func readStatement(l []api.Token) (statement, []api.Token, api.Fault) {
	r := &reader{rest: l[1:]}
	s, ok := r.statement()
	if ok {
		return s, r.rest, api.Fault{}
	}
	at := l[0].At
	if len(r.rest) > 0 {
		at = r.rest[0].At
	}
	return statement{}, nil, api.Fault{E: api.ErrForm, At: at}
}
