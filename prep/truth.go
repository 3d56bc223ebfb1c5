package prep

import (
	"arbiter/api"
	"arbiter/rat"
	"arbiter/worth"
)

// standsFor tells whether the nodes stand for terms of the bank, of their sorts.
func standsFor(g api.Goal, b api.Bank) bool {
	for _, n := range g.Nodes[2:] {
		if n.Term >= len(b.Terms) || b.Terms[n.Term].Sort != n.Sort {
			return false
		}
	}
	return true
}

// nodeValues tells what the nodes are worth. Several may stand for one term, whose number may be long to write: it is written once.
func nodeValues(terms []api.Term, nodes []api.GNode, tables []worth.Table) []api.Value {
	var roots []int
	for _, n := range nodes[2:] {
		roots = append(roots, n.Term)
	}
	values := worth.Terms(terms, tables, roots)
	told := map[int]api.Value{}
	out := []api.Value{worth.Plain(worth.Truth(true)), worth.Plain(worth.Truth(false))}
	for _, t := range roots {
		v, ok := told[t]
		if !ok {
			v = worth.Plain(values[t])
			told[t] = v
		}
		out = append(out, v)
	}
	return out
}

// point is what each node is worth.
type point []worth.Value

// pointOf tells the point that plain data is, and whether it is one of these nodes.
func pointOf(nodes []api.GNode, values []api.Value) (point, bool) {
	p := make(point, len(nodes))
	for i, n := range nodes {
		v, ok := worth.Of(values[i], n.Sort)
		if !ok {
			return nil, false
		}
		p[i] = v
	}
	return p, worth.IsTrue(p[0]) && !worth.IsTrue(p[1])
}

// meets tells whether an atom holds.
func (p point) meets(a api.Atom) bool {
	switch a.Kind {
	case api.AtomTrue:
		return worth.IsTrue(p[a.L])
	case api.AtomEq:
		return p[a.L].Same(p[a.R])
	}
	sign := p.reckon(a.Con.F).Sign()
	return sign < 0 || sign == 0 && a.Con.Op == api.ConLe
}

// reckon tells what a form over nodes of sort Real is worth.
func (p point) reckon(f api.Lin) rat.Rat {
	k, _ := rat.Parse(f.K)
	summands := []rat.Rat{k}
	for _, mono := range f.M {
		c, _ := rat.Parse(mono.C)
		x, _ := p[mono.V].(worth.Number)
		summands = append(summands, c.Mul(x.Rat))
	}
	return rat.Sum(summands...)
}

// formHolds tells whether a form holds where these atoms and earlier forms do.
func formHolds(f api.Form, atoms, forms []bool) bool {
	arg := func(i int) bool { return forms[f.Args[i]] }
	switch f.Op {
	case api.FormAtom:
		return atoms[f.Atom]
	case api.FormNot:
		return !arg(0)
	case api.FormAnd:
		return !has(f.Args, forms, false)
	case api.FormOr:
		return has(f.Args, forms, true)
	case api.FormIff:
		return arg(0) == arg(1)
	case api.FormIte:
		if arg(0) {
			return arg(1)
		}
		return arg(2)
	}
	return true
}

// has tells whether one of the forms is so.
func has(list []int, forms []bool, so bool) bool {
	for _, f := range list {
		if forms[f] == so {
			return true
		}
	}
	return false
}
