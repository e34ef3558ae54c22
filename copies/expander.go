package copies

import (
	"slices"

	"columnseven/api"
)

// expander inserts members into a list, and into the members that it inserts.
type expander struct {
	members []Member
	active  map[string]bool // the names of the members that are being expanded
	used    *names
	copies  int // the COPY statements that were performed
}

func newExpander(members []Member) *expander {
	return &expander{members: members, active: map[string]bool{}, used: newNames()}
}

// expand returns the tokens of a list in which all members are inserted.
func (x *expander) expand(l []api.Token) ([]api.Token, api.Fault) {
	var out []api.Token
	for i := findCopy(l); i >= 0; i = findCopy(l) {
		s, rest, f := readStatement(l[i:])
		if f != (api.Fault{}) {
			return nil, f
		}
		in, f := x.perform(s)
		if f != (api.Fault{}) {
			return nil, f
		}
		out = append(out, l[:i]...)
		out = append(out, in...)
		// The limit is one of the whole list, so what stands behind the statement counts, too.
		if len(out)+len(rest) > api.MaxTokens {
			return nil, api.Fault{E: api.ErrLimit, At: s.name.At}
		}
		l = rest
	}
	return append(out, l...), api.Fault{}
}

// perform returns the tokens that replace a COPY statement.
func (x *expander) perform(s statement) ([]api.Token, api.Fault) {
	m, e := x.find(s.name.Text)
	if e != api.OK {
		return nil, api.Fault{E: e, At: s.name.At}
	}
	x.copies++
	x.used.add(m.Name)
	x.active[m.Name] = true
	defer delete(x.active, m.Name)
	l, f := x.expand(m.Tokens)
	if f != (api.Fault{}) {
		return nil, f
	}
	// Replace looks only at what it returns, which may be shorter.
	if len(l) > api.MaxTokens {
		return nil, api.Fault{E: api.ErrLimit, At: s.name.At}
	}
	l, e = Replace(l, s.replacements)
	if e != api.OK {
		return nil, api.Fault{E: e, At: s.name.At}
	}
	return l, api.Fault{}
}

// find returns the member with a name, if one more COPY statement with this name can be performed.
func (x *expander) find(name string) (Member, api.Errno) {
	i := slices.IndexFunc(x.members, func(m Member) bool { return m.Name == name })
	switch {
	case i < 0:
		return Member{}, api.ErrNone
	case x.active[name]:
		return Member{}, api.ErrLoop
	case len(x.active) == api.MaxCopy || x.copies == MaxCopies:
		return Member{}, api.ErrLimit
	}
	return x.members[i], api.OK
}
