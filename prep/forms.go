package prep

import (
	"iter"

	"arbiter/api"
	"arbiter/lin"
	"arbiter/sums"
)

// formOf adds the form of a term of sort Bool; its arguments have theirs.
func (m *maker) formOf(v api.Term, node int) int {
	switch v.Op {
	case api.OpTrue, api.OpFalse:
		return m.truth(v.Op == api.OpTrue)
	case api.OpApp:
		return m.addAtom(api.Atom{Kind: api.AtomTrue, L: node})
	case api.OpImplies:
		return m.implies(m.formsOf(v.Args))
	case api.OpXor:
		return m.xor(m.formsOf(v.Args))
	case api.OpEq, api.OpDistinct, api.OpLe, api.OpLt, api.OpGe, api.OpGt:
		return m.all(m.relations(v))
	}
	return m.addForm(operatorOf(v.Op), m.formsOf(v.Args)...)
}

// operatorOf tells the operator of forms that is the same as one of terms.
func operatorOf(op int) int {
	switch op {
	case api.OpNot:
		return api.FormNot
	case api.OpAnd:
		return api.FormAnd
	case api.OpOr:
		return api.FormOr
	}
	return api.FormIte
}

func (m *maker) formsOf(terms []int) []int {
	var list []int
	for _, t := range terms {
		list = append(list, m.forms[t])
	}
	return list
}

func (m *maker) truth(holds bool) int {
	f := m.addForm(api.FormTrue)
	if holds {
		return f
	}
	return m.not(f)
}

func (m *maker) not(f int) int {
	return m.addForm(api.FormNot, f)
}

func (m *maker) implies(forms []int) int {
	last := len(forms) - 1
	for i, f := range forms[:last] {
		forms[i] = m.not(f)
	}
	return m.addForm(api.FormOr, forms...)
}

func (m *maker) xor(forms []int) int {
	x := forms[0]
	for _, y := range forms[1:] {
		x = m.not(m.addForm(api.FormIff, x, y))
	}
	return x
}

// all joins forms; a single one stands for itself.
func (m *maker) all(forms []int) int {
	if len(forms) == 1 {
		return forms[0]
	}
	return m.addForm(api.FormAnd, forms...)
}

// relations adds what a relation says of its arguments, two by two.
func (m *maker) relations(v api.Term) []int {
	couples := neighbours(v.Args)
	if v.Op == api.OpDistinct {
		couples = pairs(v.Args)
	}
	var list []int
	for a, b := range couples {
		list = append(list, m.relation(v.Op, a, b))
	}
	return list
}

// neighbours goes through each two that stand side by side.
func neighbours(list []int) iter.Seq2[int, int] {
	return func(yield func(int, int) bool) {
		for i := range len(list) - 1 {
			if !yield(list[i], list[i+1]) {
				return
			}
		}
	}
}

// pairs goes through each two: the first with each later one, then the second, and so on.
func pairs(list []int) iter.Seq2[int, int] {
	return func(yield func(int, int) bool) {
		for i, a := range list {
			for _, b := range list[i+1:] {
				if !yield(a, b) {
					return
				}
			}
		}
	}
}

// relation adds what a relation says of two terms.
func (m *maker) relation(op, a, b int) int {
	switch op {
	case api.OpEq:
		return m.same(a, b)
	case api.OpDistinct:
		return m.not(m.same(a, b))
	case api.OpLe:
		return m.constraint(api.ConLe, m.difference(a, b))
	case api.OpLt:
		return m.constraint(api.ConLt, m.difference(a, b))
	case api.OpGe:
		return m.constraint(api.ConLe, m.difference(b, a))
	}
	return m.constraint(api.ConLt, m.difference(b, a))
}

// same adds that two terms of one sort are worth the same.
func (m *maker) same(a, b int) int {
	switch m.terms[a].Sort {
	case api.SortBool:
		return m.addForm(api.FormIff, m.forms[a], m.forms[b])
	case api.SortReal:
		return m.sameNumber(a, b)
	}
	l, r := m.nodes[a], m.nodes[b]
	if l == r {
		return m.truth(true)
	}
	return m.addAtom(api.Atom{Kind: api.AtomEq, L: min(l, r), R: max(l, r)})
}

func (m *maker) sameNumber(a, b int) int {
	equation := tidy(api.ConEq, m.difference(a, b))
	if isFixed(equation) {
		return m.truth(equation.Op == api.ConTrue)
	}
	opposite, _ := lin.Scale(equation.F, "-1")
	up := m.constraint(api.ConLe, equation.F)
	down := m.constraint(api.ConLe, opposite)
	return m.addForm(api.FormAnd, up, down)
}

// constraint adds that a form is not above 0, or is below 0.
func (m *maker) constraint(op int, f api.Lin) int {
	c := tidy(op, f)
	switch {
	case isFixed(c):
		return m.truth(c.Op == api.ConTrue)
	case c.Op == api.ConLt:
		// The opposite of what is tidy is tidy too.
		opposite, _ := lin.Opposite(c)
		return m.not(m.addAtom(api.Atom{Kind: api.AtomCon, Con: opposite[0]}))
	}
	return m.addAtom(api.Atom{Kind: api.AtomCon, Con: c})
}

func tidy(op int, f api.Lin) api.Con {
	c, _ := lin.Tidy(api.Con{Op: op, F: f})
	return c
}

// isFixed tells whether a tidy constraint holds always or never.
func isFixed(c api.Con) bool {
	return c.Op == api.ConTrue || c.Op == api.ConFalse
}

// difference tells the form of one term less that of another.
func (m *maker) difference(a, b int) api.Lin {
	return m.overNodes(m.book.Difference(a, b))
}

// overNodes puts nodes in the place of terms. Nodes rise as their terms do, so that what is in order stays in order.
func (m *maker) overNodes(s sums.Sum) api.Lin {
	f := api.Lin{K: s.Number.Text()}
	for _, share := range s.Shares {
		f.M = append(f.M, api.Mono{V: m.nodes[share.Of], C: share.Times.Text()})
	}
	return f
}
