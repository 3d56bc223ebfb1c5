package prep

import (
	"arbiter/api"
	"arbiter/worth"
)

// standsFor tells whether the nodes stand for terms of the bank, of their sorts.
func standsFor(g api.Goal, b api.Bank) bool {
	for _, n := range g.Nodes[2:] {
		if n.Term >= len(b.Terms) || b.Terms[n.Term].Sort != n.Sort {
			return false
		}
	}
	return true
}

// nodeValues tells what the nodes are worth. Several may stand for one term, whose number may be long to write: it is written once.
func nodeValues(terms []api.Term, nodes []api.GNode, tables []worth.Table) []api.Value {
	var roots []int
	for _, n := range nodes[2:] {
		roots = append(roots, n.Term)
	}
	values := worth.Terms(terms, tables, roots)
	told := map[int]api.Value{}
	out := []api.Value{worth.Plain(worth.Truth(true)), worth.Plain(worth.Truth(false))}
	for _, t := range roots {
		v, ok := told[t]
		if !ok {
			v = worth.Plain(values[t])
			told[t] = v
		}
		out = append(out, v)
	}
	return out
}

// formHolds tells whether a form holds where these atoms and earlier forms do.
func formHolds(f api.Form, atoms, forms []bool) bool {
	arg := func(i int) bool { return forms[f.Args[i]] }
	switch f.Op {
	case api.FormAtom:
		return atoms[f.Atom]
	case api.FormNot:
		return !arg(0)
	case api.FormAnd:
		return !has(f.Args, forms, false)
	case api.FormOr:
		return has(f.Args, forms, true)
	case api.FormIff:
		return arg(0) == arg(1)
	case api.FormIte:
		if arg(0) {
			return arg(1)
		}
		return arg(2)
	}
	return true
}

// has tells whether one of the forms is so.
func has(list []int, forms []bool, so bool) bool {
	for _, f := range list {
		if forms[f] == so {
			return true
		}
	}
	return false
}
