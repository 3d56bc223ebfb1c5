package prep_test

import (
	"math/big"
	"slices"
	"testing"

	"arbiter/api"
	"arbiter/prep"
	"arbiter/term"
)

func truth(n int) api.Value { return api.Value{Sort: api.SortBool, N: n} }

func number(r string) api.Value { return api.Value{Sort: api.SortReal, R: r} }

// elem is the element n of the first declared sort.
func elem(n int) api.Value { return api.Value{Sort: api.SortFirst, N: n} }

func table(other api.Value, rows ...api.Row) api.Table { return api.Table{Rows: rows, Else: other} }

func row(out api.Value, args ...api.Value) api.Row { return api.Row{Args: args, Out: out} }

func model(tables ...api.Table) api.Model { return api.Model{Tables: tables} }

func form(k string, monos ...api.Mono) api.Lin { return api.Lin{M: monos, K: k} }

func atMost(f api.Lin) api.Atom {
	return api.Atom{Kind: api.AtomCon, Con: api.Con{Op: api.ConLe, F: f}}
}

func f(op int, args ...int) api.Form { return api.Form{Op: op, Args: args} }

func atomForm(atom int) api.Form { return api.Form{Op: api.FormAtom, Atom: atom} }

// app is a node that a function is at nodes.
func app(fun, sort, term int, args ...int) api.GNode {
	return api.GNode{Kind: api.NodeApp, Sort: sort, Fun: fun, Args: args, Term: term}
}

func pick(sort, term int) api.GNode {
	return api.GNode{Kind: api.NodePick, Sort: sort, Fun: -1, Term: term}
}

// nodes is the two nodes that every goal has, and these.
func nodes(more ...api.GNode) []api.GNode {
	return append([]api.GNode{{Kind: api.NodeTrue, Fun: -1, Term: -1}, {Kind: api.NodeFalse, Fun: -1, Term: -1}}, more...)
}

// What follows takes nil and the empty list for the same.

func sameLin(a, b api.Lin) bool {
	return a.K == b.K && slices.Equal(a.M, b.M)
}

func sameNode(a, b api.GNode) bool {
	return a.Kind == b.Kind && a.Sort == b.Sort && a.Fun == b.Fun && a.Term == b.Term && slices.Equal(a.Args, b.Args) && sameLin(a.Lin, b.Lin)
}

func sameAtom(a, b api.Atom) bool {
	return a.Kind == b.Kind && a.L == b.L && a.R == b.R && a.Con.Op == b.Con.Op && sameLin(a.Con.F, b.Con.F)
}

func sameForm(a, b api.Form) bool {
	return a.Op == b.Op && a.Atom == b.Atom && slices.Equal(a.Args, b.Args)
}

func sameGoal(a, b api.Goal) bool {
	return slices.EqualFunc(a.Nodes, b.Nodes, sameNode) && slices.EqualFunc(a.Atoms, b.Atoms, sameAtom) &&
		slices.EqualFunc(a.Forms, b.Forms, sameForm) && slices.Equal(a.Sides, b.Sides) && slices.Equal(a.Roots, b.Roots)
}

// cloneGoal copies all lists of a goal, without spare room.
func cloneGoal(g api.Goal) api.Goal {
	out := api.Goal{Nodes: slices.Clone(g.Nodes), Atoms: slices.Clone(g.Atoms), Forms: slices.Clone(g.Forms), Sides: slices.Clone(g.Sides), Roots: slices.Clone(g.Roots)}
	for i := range out.Nodes {
		out.Nodes[i].Args = slices.Clone(out.Nodes[i].Args)
		out.Nodes[i].Lin.M = slices.Clone(out.Nodes[i].Lin.M)
	}
	for i := range out.Atoms {
		out.Atoms[i].Con.F.M = slices.Clone(out.Atoms[i].Con.F.M)
	}
	for i := range out.Forms {
		out.Forms[i].Args = slices.Clone(out.Forms[i].Args)
	}
	return out
}

func cloneBank(b api.Bank) api.Bank {
	out := api.Bank{Sorts: slices.Clone(b.Sorts), Funs: slices.Clone(b.Funs), Terms: slices.Clone(b.Terms)}
	for i := range out.Funs {
		out.Funs[i].Args = slices.Clone(out.Funs[i].Args)
	}
	for i := range out.Terms {
		out.Terms[i].Args = slices.Clone(out.Terms[i].Args)
	}
	return out
}

// rational is what the library makes of a canonical text.
func rational(text string) *big.Rat {
	q, ok := new(big.Rat).SetString(text)
	if !ok {
		panic("no rational: " + text)
	}
	return q
}

// maker makes banks for tests, in which nothing is refused.
type maker struct {
	t *testing.T
	*term.Bank
}

func newMaker(t *testing.T, sorts ...string) maker {
	m := maker{t, term.New()}
	for _, s := range sorts {
		m.Sort(s)
	}
	return m
}

func (m maker) must(n int, e api.Errno) int {
	m.t.Helper()
	if e != api.OK {
		m.t.Fatalf("the test's bank is refused: %d", e)
	}
	return n
}

func (m maker) fun(name string, out int, args ...int) int {
	m.t.Helper()
	return m.must(m.Fun(name, args, out))
}

func (m maker) num(text string) int {
	m.t.Helper()
	return m.must(m.Num(text))
}

func (m maker) app(fun int, args ...int) int {
	m.t.Helper()
	return m.must(m.App(fun, args))
}

// constant is the term of a new constant.
func (m maker) constant(sort int) int {
	m.t.Helper()
	return m.app(m.fun("c", sort))
}

func (m maker) op(op int, args ...int) int {
	m.t.Helper()
	return m.must(m.Op(op, args))
}

// goal is the goal of roots that must have one, and a sound one.
func (m maker) goal(roots ...int) api.Goal {
	m.t.Helper()
	return goalOf(m.t, m.Export(), roots...)
}

func goalOf(t *testing.T, b api.Bank, roots ...int) api.Goal {
	t.Helper()
	g, e := prep.Goal(b, roots)
	if e != api.OK {
		t.Fatalf("R2: Goal(%v): %d", roots, e)
	}
	if e := prep.Check(g); e != api.OK {
		t.Fatalf("R10: the goal of %v is none: %d", roots, e)
	}
	return g
}
