package copies

import "slices"

// names is a list of names, each once.
type names struct {
	list []string
	has  map[string]bool
}

func newNames() *names { return &names{has: map[string]bool{}} }

// add appends a name that is not in the list yet.
func (n *names) add(name string) {
	if n.has[name] {
		return
	}
	n.has[name] = true
	n.list = append(n.list, name)
}

func (n *names) all() []string { return slices.Clip(n.list) }
