package proof

import (
	"arbiter/api"
	"arbiter/euf"
	"arbiter/lin"
)

// none is no step, no place.
const none = -1

// looker looks over lemmas of one goal.
type looker struct {
	goal  api.Goal
	graph *euf.Graph // of the goal's nodes; nothing is said in it between two lemmas, so that each costs no more than what it speaks of
	kinds [api.DerivZero + 1]kind
}

func newLooker(g api.Goal) *looker {
	flats := make([]api.Flat, len(g.Nodes))
	for i, n := range g.Nodes {
		flats[i] = api.Flat{Fun: -1}
		if n.Kind == api.NodeApp {
			flats[i] = api.Flat{Fun: n.Fun, Args: n.Args}
		}
	}
	graph, _ := euf.New(flats)
	return &looker{g, graph, kinds()}
}

// pair is two nodes, the lesser one first.
type pair struct {
	a, b int
}

func pairOf(a, b int) pair {
	return pair{min(a, b), max(a, b)}
}

// lemma is a lemma that is looked over.
type lemma struct {
	*looker
	held   map[int]int  // by literal that is held: its place
	apart  map[pair]int // the nodes that are held apart, by how often
	derivs []api.Deriv  // those that follow
}

// fault tells the first step of a lemma that does not follow, or none.
func (k *looker) fault(given api.Lemma) int {
	l := &lemma{looker: k, held: map[int]int{}, apart: map[pair]int{{0, 1}: 1}}
	k.graph.Push()
	defer k.graph.Pop(1)
	for i, lit := range given.Lits {
		if lit == 0 || lit > len(k.goal.Atoms) || lit < -len(k.goal.Atoms) {
			return 0
		}
		l.held[-lit] = i
		l.say(-lit)
	}
	ended := false
	for i, d := range given.Derivs {
		last := i == len(given.Derivs)-1
		if !l.takes(d, last) {
			return i
		}
		ended = k.kinds[d.Kind].last
	}
	if !ended {
		return len(given.Derivs)
	}
	return none
}

// atom tells the atom of a literal.
func (k *looker) atom(lit int) api.Atom {
	return k.goal.Atoms[max(lit, -lit)-1]
}

// say holds what a literal says of nodes that are the same, or apart.
func (l *lemma) say(lit int) {
	switch atom := l.atom(lit); {
	case atom.Kind == api.AtomTrue && lit > 0:
		l.equate(atom.L, 0)
	case atom.Kind == api.AtomTrue:
		l.equate(atom.L, 1)
	case atom.Kind == api.AtomEq && lit > 0:
		l.equate(atom.L, atom.R)
	case atom.Kind == api.AtomEq:
		l.apart[pairOf(atom.L, atom.R)]++
	}
}

// equate takes over that two nodes are the same. Why is not asked of the graph, so the tag says nothing.
func (l *lemma) equate(a, b int) {
	l.graph.Equal(a, b, 0)
}

// takes tells whether a step follows; if so, those behind it may build on it.
func (l *lemma) takes(d api.Deriv, last bool) bool {
	if !isKind(d.Kind) || !l.isNode(d.A) || !l.isNode(d.B) {
		return false
	}
	k := l.kinds[d.Kind]
	if k.last && !last || !k.fits(d) || !k.follows(l, d) {
		return false
	}
	l.derivs = append(l.derivs, d)
	l.equate(d.A, d.B)
	return true
}

func (l *lemma) isNode(n int) bool {
	return n >= 0 && n < len(l.goal.Nodes)
}

func (l *lemma) isReal(n int) bool {
	return l.goal.Nodes[n].Sort == api.SortReal
}

// isSame tells whether the two are the same in the congruence.
func (l *lemma) isSame(d api.Deriv) bool {
	same, _ := l.graph.Same(d.A, d.B)
	return same
}

// isClash tells whether the two are the same, and held apart.
func (l *lemma) isClash(d api.Deriv) bool {
	return l.apart[pairOf(d.A, d.B)] > 0 && l.isSame(d)
}

// isBetween tells whether neither of the two can be above the other one.
func (l *lemma) isBetween(d api.Deriv) bool {
	return l.isReal(d.A) && l.isReal(d.B) && l.atMost(d.Up, d.A, d.B) && l.atMost(d.Down, d.B, d.A)
}

// isNothing tells whether facts add up to what cannot be.
func (l *lemma) isNothing(d api.Deriv) bool {
	cons, times, ok := l.facts(d.Up)
	if !ok {
		return false
	}
	never, err := lin.Farkas(cons, times)
	return err == api.OK && never
}
