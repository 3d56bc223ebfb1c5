package combine

import (
	"cmp"
	"slices"

	"arbiter/api"
)

// side is one of the two theories. A view is a number for each node: nodes of sort Real that have the same number are the same as far as a theory sees for now. Of those that it takes for the same without need it may be asked to keep them apart.
type side interface {
	open()
	back(levels int)
	// hold takes a literal. One that says nothing to this theory is let be.
	hold(lit int)
	// equate takes over that nodes are the same: the equalities from this number on.
	equate(first int, pairs []pair)
	// agrees tells whether what was handed over can be so; blame tells why not.
	agrees() bool
	blame() reason
	// view, and all that follows, is asked where the theory agrees.
	view() []int
	// wants tells nodes that are the same in the other one's view, and of which that would be news; those that do not count play no part.
	wants(view func() []int, counts func(node int) bool) []pair
	// forced tells which nodes of these must be the same. The view keeps the others apart, until something is handed over.
	forced(pairs []pair) []equality
	// shows tells whether the view makes a literal true, if it is one that says something to this theory.
	shows(lit int) bool
	// value tells what the nodes are worth of which this theory can tell.
	value(values []api.Value)
}

// pair is two nodes.
type pair struct {
	a, b int
}

func (p pair) compare(q pair) int {
	return cmp.Or(cmp.Compare(p.a, q.a), cmp.Compare(p.b, q.b))
}

// equality is two nodes that must be the same. Why is asked of few of them, later, when others have come: it rests on none of these.
type equality struct {
	pair
	why func() reason
}

// reason is a step of a lemma, and what it rests on. Steps name equalities by the numbers that these have in the talk.
type reason struct {
	step api.Deriv
	lits []int
	eqs  []int
}

// talk is the two theories, and what they have told one another.
type talk struct {
	sides  [2]side
	scope  scope            // what the literals that are held are made of
	eqs    layers[equality] // handed on from one to the other
	quiet  bool             // neither has news for the other one, of the nodes that count
	broken side             // the one that does not agree, if what is held cannot be so and that has come out
}

func newTalk(g api.Goal) *talk {
	return &talk{sides: [2]side{newCongruence(g), newLinear(g)}, scope: newScope(g)}
}

func (t *talk) levels() int {
	return len(t.eqs.marks)
}

// hold opens a level with a literal.
func (t *talk) hold(lit int) {
	t.eqs.open()
	t.scope.open(lit)
	for _, s := range t.sides {
		s.open()
		s.hold(lit)
	}
	t.quiet = false
}

// back takes the last n levels back.
func (t *talk) back(n int) {
	if n == 0 {
		return
	}
	clear(t.eqs.back(n))
	t.scope.back(n)
	for _, s := range t.sides {
		s.back(n)
	}
	t.quiet, t.broken = false, nil
}

// settle tells whether what is held can be so. What it is made of alone is looked at: what other nodes are worth can be worked out from that, or is free.
func (t *talk) settle() bool {
	return t.agree(t.scope.has)
}

// spread lets both theories see all nodes as they can be together. What is held can be so.
func (t *talk) spread() {
	t.quiet = false
	t.agree(func(int) bool { return true })
}

// agree lets the theories talk until one of them objects, or neither has news, and tells which of the two it is.
func (t *talk) agree(counts func(node int) bool) bool {
	for t.broken == nil && !t.quiet {
		t.quiet = true
		for i, s := range t.sides {
			if !t.ask(s, t.sides[1-i], counts) {
				break
			}
		}
	}
	return t.broken == nil
}

// ask lets the one theory learn from the other, and tells whether both agree.
func (t *talk) ask(s, other side, counts func(node int) bool) bool {
	for _, x := range t.sides {
		if !x.agrees() {
			t.broken = x
			return false
		}
	}
	if pairs := s.wants(other.view, counts); len(pairs) > 0 {
		t.quiet = false
		t.hand(s, other.forced(pairs))
	}
	return true
}

// hand tells a theory what is the same by the other one.
func (t *talk) hand(to side, found []equality) {
	first, pairs := len(t.eqs.list), make([]pair, len(found))
	for i, e := range found {
		pairs[i] = e.pair
		t.eqs.add(e)
	}
	to.equate(first, pairs)
}

// shows tells whether a literal holds under the values that were found when all was quiet.
func (t *talk) shows(lit int) bool {
	return t.sides[0].shows(lit) || t.sides[1].shows(lit)
}

// trace tells literals that cannot be true together, and the steps that show it.
func (t *talk) trace() ([]int, []api.Deriv) {
	reasons := []reason{t.broken.blame()} // the last step first
	var eqs []int                         // those of the others
	needed := make([]bool, len(t.eqs.list))
	for e := len(t.eqs.list) - 1; ; e-- {
		for _, earlier := range reasons[len(reasons)-1].eqs {
			needed[earlier] = true
		}
		for e >= 0 && !needed[e] {
			e--
		}
		if e < 0 {
			break
		}
		eqs = append(eqs, e)
		reasons = append(reasons, t.eqs.list[e].why())
	}
	numbers := make([]int, len(t.eqs.list)) // of their steps
	for i, e := range eqs {
		numbers[e] = len(eqs) - 1 - i
	}
	var lits []int
	var steps []api.Deriv
	for _, why := range slices.Backward(reasons) {
		lits = append(lits, why.lits...)
		steps = append(steps, renumber(why.step, numbers))
	}
	slices.Sort(lits)
	return slices.Compact(lits), steps
}

// renumber tells a step with the numbers of steps in the place of those of equalities.
func renumber(step api.Deriv, numbers []int) api.Deriv {
	for _, list := range [...]*[]api.Coef{&step.Up, &step.Down} {
		*list = slices.Clone(*list)
		for i, c := range *list {
			if c.Kind == api.CoefEq {
				(*list)[i].Ref = numbers[c.Ref]
			}
		}
	}
	return step
}
