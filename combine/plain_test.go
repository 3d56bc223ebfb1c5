package combine_test

import (
	"arbiter/api"
	"arbiter/lin"
	"arbiter/num"
)

// This file says by the chapter's words, without regard to time, what loose values are, and when a literal holds under them. (When a lemma follows says proof, whose tests hold it against the chapter's words.)

func atomOf(g api.Goal, lit int) api.Atom {
	return g.Atoms[max(lit, -lit)-1]
}

// isValue tells whether a value is one of a sort, loosely.
func isValue(v api.Value, sort int) bool {
	if v.Sort != sort {
		return false
	}
	if sort == api.SortReal {
		canon, err := num.Canon(v.R)
		return err == api.OK && canon == v.R && v.N == 0
	}
	return v.R == "" && v.N >= 0
}

// reals tells what the nodes of sort Real are worth, by node; others are worth 0.
func reals(values []api.Value) []string {
	at := make([]string, len(values))
	for i, v := range values {
		at[i] = "0"
		if v.Sort == api.SortReal {
			at[i] = v.R
		}
	}
	return at
}

// looseFault tells what keeps values from being loose values of a goal's nodes, or nothing.
func looseFault(g api.Goal, values []api.Value) string {
	if len(values) != len(g.Nodes) {
		return "there are not as many values as nodes"
	}
	for i, n := range g.Nodes {
		if !isValue(values[i], n.Sort) {
			return "a value is none of its node's sort"
		}
	}
	if values[0].N != 1 || values[1].N != 0 {
		return "the node 0 is not true, or the node 1 not false"
	}
	at := reals(values)
	for i, n := range g.Nodes {
		if n.Kind != api.NodeLin {
			continue
		}
		if v, err := lin.Value(n.Lin, at); err != api.OK || v != values[i].R {
			return "a form is not worth what it says"
		}
	}
	for i, n := range g.Nodes {
		for j, m := range g.Nodes[:i] {
			if n.Kind == api.NodeApp && m.Kind == api.NodeApp && n.Fun == m.Fun && sameArgs(n, m, func(x, y int) bool { return values[x] == values[y] }) && values[i] != values[j] {
				return "a function is worth two things at the same arguments"
			}
		}
	}
	return ""
}

func sameArgs(n, m api.GNode, same func(x, y int) bool) bool {
	if len(n.Args) != len(m.Args) {
		return false
	}
	for k, arg := range n.Args {
		if !same(arg, m.Args[k]) {
			return false
		}
	}
	return true
}

// plainHolds tells whether a literal holds under loose values.
func plainHolds(g api.Goal, values []api.Value, lit int) bool {
	atom := atomOf(g, lit)
	switch atom.Kind {
	case api.AtomTrue:
		return lit > 0 && values[atom.L].N == 1 || lit < 0 && values[atom.L].N == 0
	case api.AtomEq:
		return (values[atom.L] == values[atom.R]) == (lit > 0)
	}
	ok, err := lin.Holds(factOf(g, lit), reals(values))
	return err == api.OK && ok
}

// factOf tells what a literal of a constraint says: the constraint, or its opposite.
func factOf(g api.Goal, lit int) api.Con {
	con := atomOf(g, lit).Con
	if lit > 0 {
		return con
	}
	opposite, _ := lin.Opposite(con)
	return opposite[0]
}
