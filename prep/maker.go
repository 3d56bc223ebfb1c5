package prep

import (
	"iter"
	"slices"

	"arbiter/api"
	"arbiter/sums"
)

// maker makes a goal of roots.
type maker struct {
	terms  []api.Term
	counts iter.Seq[int] // the terms that the roots are made of, rising
	book   *sums.Book
	nodes  []int // by term: its node, or none
	forms  []int // by term of sort Bool that counts: its form
	goal   api.Goal
	found  found
}

// none stands where a term has no node.
const none = -1

func newMaker(terms []api.Term, roots []int) *maker {
	return &maker{
		terms:  terms,
		counts: counting(terms, roots),
		book:   sums.New(terms),
		nodes:  slices.Repeat([]int{none}, len(terms)),
		forms:  make([]int, len(terms)),
		found:  newFound(),
	}
}

// takeApart makes the goal of the roots; it gives up, by panic, above a limit.
func (m *maker) takeApart(roots []int) api.Goal {
	m.addNodes()
	for t := range m.counts {
		if m.terms[t].Sort == api.SortBool {
			m.forms[t] = m.formOf(m.terms[t], m.nodes[t])
		}
	}
	for n, node := range m.goal.Nodes {
		if node.Kind == api.NodePick {
			m.addSides(n, node)
		}
	}
	m.goal.Roots = m.formsOf(roots)
	return m.goal
}

// counting goes through the terms that the roots are made of, in rising order.
func counting(terms []api.Term, roots []int) iter.Seq[int] {
	seen := make([]bool, len(terms))
	see := func(list []int) {
		for _, t := range list {
			seen[t] = true
		}
	}
	see(roots)
	for t := len(terms) - 1; t >= 0; t-- {
		if seen[t] {
			see(terms[t].Args)
		}
	}
	return func(yield func(int) bool) {
		for t, counts := range seen {
			if counts && !yield(t) {
				return
			}
		}
	}
}

// addSides adds what says of a pick what it is worth.
func (m *maker) addSides(n int, node api.GNode) {
	if node.Sort == api.SortBool {
		chosen := m.addAtom(api.Atom{Kind: api.AtomTrue, L: n})
		m.side(api.FormIff, chosen, m.forms[node.Term])
		return
	}
	args := m.terms[node.Term].Args
	condition := m.forms[args[0]]
	not := m.not(condition)
	m.side(api.FormOr, not, m.same(node.Term, args[1]))
	m.side(api.FormOr, condition, m.same(node.Term, args[2]))
}

func (m *maker) side(op int, args ...int) {
	m.goal.Sides = append(m.goal.Sides, m.addForm(op, args...))
}
