package combine

import (
	"arbiter/api"
	"arbiter/num"
	"arbiter/simplex"
)

// linear is the theory for which an application is a number like any other.
type linear struct {
	plan
	goal     api.Goal
	tableau  *simplex.Tableau
	families []int             // what can turn out to be the same by congruence
	said     layers[api.Bound] // the bounds in force
	clash    []api.Share
	point    []string   // what the variables are worth for now, or nil, if that is not known
	labels   []int      // the view that it gives, or nil
	apart    []api.Both // the variables that it is to keep apart
}

func newLinear(g api.Goal) *linear {
	l := &linear{plan: newPlan(g), goal: g, families: families(g)}
	l.tableau, _ = simplex.New(l.free, l.rows)
	return l
}

// families tells the applications of sort Real, of functions that are applied more than once.
func families(g api.Goal) []int {
	var list []int
	times := applied(g)
	for i, n := range g.Nodes {
		if n.Sort == api.SortReal && times[n.Fun] > 1 {
			list = append(list, i)
		}
	}
	return list
}

func (l *linear) open() {
	l.tableau.Push()
	l.said.open()
}

// back leaves the point as it is: it is within the bounds that are left too.
func (l *linear) back(levels int) {
	l.tableau.Pop(levels)
	l.said.back(levels)
}

func (l *linear) hold(lit int) {
	if limit := l.limits[atomOf(lit)]; limit.v != none {
		l.say(limit.bound(lit))
	}
}

// say brings a bound into force. It is there already if its literal is held a second time.
func (l *linear) say(b api.Bound) {
	if l.tableau.Assert(b) != api.OK {
		return
	}
	l.said.add(b)
	if l.point == nil || !within(b, l.point[b.V]) {
		l.point, l.labels, l.apart = nil, nil, nil
	}
}

// within tells whether a number is within a bound.
func within(b api.Bound, number string) bool {
	order, _ := num.Cmp(number, b.At.A)
	if b.Upper {
		order = -order
	}
	return order > 0 || order == 0 && b.At.B == "0"
}

// equate says two bounds for each equality, under tags that are above all literals.
func (l *linear) equate(first int, pairs []pair) {
	l.lay(pairs)
	nought := api.Delta{A: "0", B: "0"}
	for i, p := range pairs {
		tag := len(l.limits) + 1 + 2*(first+i)
		l.say(api.Bound{V: l.span(p), Upper: true, At: nought, Tag: tag})
		l.say(api.Bound{V: l.span(p), At: nought, Tag: tag + 1})
	}
}

// lay sees to it that the tableau has the differences of pairs. If some are new, it is made anew.
func (l *linear) lay(pairs []pair) {
	before := len(l.rows)
	for _, p := range pairs {
		l.span(p)
	}
	if len(l.rows) == before {
		return
	}
	if len(l.pairs) > l.fixed+spare {
		l.shrink(pairs)
	}
	l.tableau, _ = simplex.New(l.free, l.rows)
	l.repeat()
	l.point, l.labels, l.apart = nil, nil, nil
}

// repeat says all bounds to a tableau that is new, level by level.
func (l *linear) repeat() {
	said := 0
	for _, mark := range l.said.marks {
		for ; said < mark; said++ {
			l.tableau.Assert(l.said.list[said])
		}
		l.tableau.Push()
	}
	for _, b := range l.said.list[said:] {
		l.tableau.Assert(b)
	}
}

// shrink forgets the differences of which nothing is said, but those of pairs.
func (l *linear) shrink(pairs []pair) {
	old := l.shed()
	first := l.free + l.fixed
	for i, b := range l.said.list {
		if b.V >= first {
			l.said.list[i].V = l.span(old[b.V-first])
		}
	}
	for _, p := range pairs {
		l.span(p)
	}
}

func (l *linear) agrees() bool {
	if l.point != nil {
		return true
	}
	ok, shares := l.tableau.Check()
	l.clash = shares
	return ok
}

func (l *linear) blame() reason {
	return l.reason(api.Deriv{Kind: api.DerivZero, Up: l.coefs(l.clash)})
}
