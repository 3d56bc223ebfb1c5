package combine

import (
	"slices"

	"arbiter/api"
	"arbiter/euf"
)

// congruence is the theory for which a linear form is a thing like any other.
type congruence struct {
	goal  api.Goal
	graph *euf.Graph
	mixed []int        // the applications with arguments of sort Real, of functions that are applied more than once
	rifts layers[rift] // what literals hold apart
	roots []int        // what the graph says of all nodes, or nil, if that is not known
}

// rift is two nodes that a literal holds apart.
type rift struct {
	pair
	lit int
}

func newCongruence(g api.Goal) *congruence {
	c := &congruence{goal: g}
	flats := make([]api.Flat, len(g.Nodes))
	times := applied(g)
	for i, n := range g.Nodes {
		flats[i] = api.Flat{Fun: n.Fun, Args: n.Args}
		if times[n.Fun] > 1 && slices.ContainsFunc(n.Args, c.isReal) {
			c.mixed = append(c.mixed, i)
		}
	}
	c.graph, _ = euf.New(flats)
	c.graph.Differ(0, 1, 0)
	return c
}

// applied tells how often each function is applied.
func applied(g api.Goal) map[int]int {
	times := map[int]int{}
	for _, n := range g.Nodes {
		if n.Kind == api.NodeApp {
			times[n.Fun]++
		}
	}
	return times
}

func (c *congruence) isReal(node int) bool {
	return c.goal.Nodes[node].Sort == api.SortReal
}

func (c *congruence) open() {
	c.graph.Push()
	c.rifts.open()
}

func (c *congruence) back(levels int) {
	c.graph.Pop(levels)
	c.rifts.back(levels)
	c.roots = nil
}

func (c *congruence) hold(lit int) {
	atom := c.goal.Atoms[atomOf(lit)]
	if atom.Kind == api.AtomCon {
		return
	}
	p := pair{atom.L, atom.R}
	switch {
	case atom.Kind == api.AtomTrue:
		c.graph.Equal(atom.L, truthNode(lit), lit)
	case lit > 0:
		c.graph.Equal(p.a, p.b, lit)
	default:
		c.graph.Differ(p.a, p.b, lit)
		c.rifts.add(rift{p, lit})
	}
	c.roots = nil
}

// truthNode tells the node that is worth what a literal says of a node that it calls true, or not.
func truthNode(lit int) int {
	if lit > 0 {
		return 0
	}
	return 1
}

// equate says equalities under tags that are above all literals.
func (c *congruence) equate(first int, pairs []pair) {
	for i, p := range pairs {
		c.graph.Equal(p.a, p.b, len(c.goal.Atoms)+1+first+i)
	}
	c.roots = nil
}

func (c *congruence) agrees() bool {
	return !c.graph.Clash()
}

func (c *congruence) blame() reason {
	if truth := (pair{0, 1}); c.same(truth) {
		return c.reason(api.DerivClash, truth)
	}
	met := slices.IndexFunc(c.rifts.list, func(r rift) bool { return c.same(r.pair) })
	r := c.rifts.list[met]
	why := c.reason(api.DerivClash, r.pair)
	why.lits = append(why.lits, r.lit)
	return why
}

func (c *congruence) same(p pair) bool {
	same, _ := c.graph.Same(p.a, p.b)
	return same
}

// reason tells a step that says that two nodes are the same, and what they are the same by.
func (c *congruence) reason(kind int, p pair) reason {
	why := reason{step: api.Deriv{Kind: kind, A: p.a, B: p.b}}
	links, _ := c.graph.Prove(p.a, p.b)
	last := len(c.goal.Atoms)
	for _, link := range links {
		switch {
		case link.Kind != api.LinkGiven:
		case link.Tag > last:
			why.eqs = append(why.eqs, link.Tag-last-1)
		default:
			why.lits = append(why.lits, link.Tag)
		}
	}
	return why
}

func (c *congruence) view() []int {
	if c.roots == nil {
		c.roots = c.graph.Roots()
	}
	return c.roots
}

// wants looks for applications of one function that would be the same if the other's view were right, but are not here.
func (c *congruence) wants(view func() []int, counts func(node int) bool) []pair {
	list := chosen(c.mixed, counts)
	if len(list) < 2 {
		return nil
	}
	sorter := &sorter{congruence: c, other: view(), next: map[begin]int{}, last: map[int]int{}}
	var pairs []pair
	for _, node := range list {
		if mate, met := sorter.meet(node); met && sorter.unlike(mate, node) {
			pairs = append(pairs, c.strangers(mate, node)...)
		}
	}
	slices.SortFunc(pairs, pair.compare)
	return slices.Compact(pairs)
}

// chosen tells the nodes of a list that count.
func chosen(list []int, counts func(node int) bool) []int {
	var some []int
	for _, node := range list {
		if counts(node) {
			some = append(some, node)
		}
	}
	return some
}

// strangers tells the arguments of two applications by which these are not the same yet.
func (c *congruence) strangers(x, y int) []pair {
	var pairs []pair
	others := c.goal.Nodes[y].Args
	for i, arg := range c.goal.Nodes[x].Args {
		if p := (pair{min(arg, others[i]), max(arg, others[i])}); !c.same(p) {
			pairs = append(pairs, p)
		}
	}
	return pairs
}

// sorter puts applications together whose arguments look the same: those of sort Real in the other's view, the rest here.
type sorter struct {
	*congruence
	other []int
	next  map[begin]int // by begin of an application: its number
	last  map[int]int   // by such a number: the last application that is all of it
}

// begin is a function at its first arguments, and how the next one looks.
type begin struct {
	number, look int
}

// meet tells the last application that looks like one, if there is one.
func (s *sorter) meet(node int) (int, bool) {
	number := -1 - s.goal.Nodes[node].Fun
	for _, arg := range s.goal.Nodes[node].Args {
		key := begin{number, s.look(arg)}
		next, known := s.next[key]
		if !known {
			next = len(s.next)
			s.next[key] = next
		}
		number = next
	}
	mate, met := s.last[number]
	s.last[number] = node
	return mate, met
}

func (s *sorter) look(node int) int {
	if s.isReal(node) {
		return s.other[node]
	}
	return s.view()[node]
}

// unlike tells whether applications with like arguments are not the same, and do not look so.
func (s *sorter) unlike(x, y int) bool {
	return s.look(x) != s.look(y) && !s.same(pair{x, y})
}

// forced tells that all are: what is not the same is not so in this theory's view. (The chain that the graph tells of two nodes is, as long as they are the same, the one by which they came to be.)
func (c *congruence) forced(pairs []pair) []equality {
	found := make([]equality, len(pairs))
	for i, p := range pairs {
		found[i] = equality{p, func() reason { return c.reason(api.DerivCong, p) }}
	}
	return found
}

func (c *congruence) shows(lit int) bool {
	roots, atom := c.view(), c.goal.Atoms[atomOf(lit)]
	switch atom.Kind {
	case api.AtomTrue:
		return roots[atom.L] == roots[truthNode(lit)]
	case api.AtomEq:
		return (roots[atom.L] == roots[atom.R]) == (lit > 0)
	}
	return false
}

// value gives the nodes of a class, if they are not of sort Real, a number of their own; true is 1, false is 0.
func (c *congruence) value(values []api.Value) {
	next := map[int]int{api.SortBool: 2} // by sort: the first number that is free
	for node, root := range c.view() {
		sort := c.goal.Nodes[node].Sort
		switch {
		case sort == api.SortReal:
		case root < 2:
			values[node] = api.Value{Sort: sort, N: 1 - root}
		case root == node:
			values[node] = api.Value{Sort: sort, N: next[sort]}
			next[sort]++
		default:
			values[node] = values[root]
		}
	}
}
