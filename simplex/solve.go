package simplex

import (
	"cmp"
	"slices"

	"arbiter/rat"
)

// patience tells how many steps are made by a rule that is quick but that may go round in a circle, ahead of one that never does.
func (t *Tableau) patience() int {
	return 100 + 10*len(t.said)
}

// solve moves the point until it is within the bounds, or tells why it cannot be. The bounds of each variable leave room between them.
func (t *Tableau) solve() []taken {
	t.settle()
	for steps := 0; ; steps++ {
		least := steps >= t.patience()
		v := t.next(least)
		if v == none {
			return nil
		}
		bound, above := t.vars[v].broken()
		j := t.choose(v, !above, least)
		if j == none {
			return append(t.bars(v, !above), taken{bound, t.vars[v].row.own})
		}
		t.pivot(v, j)
		t.shift(t.moves(v, bound.at.Sub(t.vars[v].at)))
	}
}

// settle looks at the variables whose bounds were drawn tighter: those that are not basic are within their bounds afterwards, and stay so.
func (t *Tableau) settle() {
	for _, v := range t.touched {
		t.vars[v].touched = false
		t.wake(v)
		if t.vars[v].row != nil {
			t.watch(v)
		} else if bound, _ := t.vars[v].broken(); bound != nil {
			t.shift(t.moves(v, bound.at.Sub(t.vars[v].at)))
		}
	}
	t.touched = t.touched[:0]
}

// watch notes a basic variable that is out of its bounds.
func (t *Tableau) watch(v int) {
	if bound, _ := t.vars[v].broken(); bound != nil && !t.vars[v].waiting {
		t.vars[v].waiting = true
		t.waiting = append(t.waiting, v)
	}
}

// next tells a basic variable that is out of its bounds, or none. To look at all of them takes fewer steps, but is worth it only where a step takes long too.
func (t *Tableau) next(least bool) int {
	if most := len(t.waiting); least || most <= 100+t.credit {
		t.credit = max(0, t.credit-most)
		return t.worst(least)
	}
	for last := len(t.waiting) - 1; last >= 0; last-- {
		v := t.waiting[last]
		if bound, _ := t.vars[v].broken(); bound != nil {
			return v
		}
		t.vars[v].waiting = false
		t.waiting = t.waiting[:last]
	}
	return none
}

// worst tells the basic variable that is farthest out of its bounds, with least the least one that is out of them, or none. It forgets those that are within them again.
func (t *Tableau) worst(least bool) int {
	worst, most, kept := none, delta{}, 0
	for _, v := range t.waiting {
		x := &t.vars[v]
		bound, _ := x.broken()
		if bound == nil || x.row == nil {
			x.waiting = false
			continue
		}
		t.waiting[kept] = v
		kept++
		far := distance(bound.at, x.at)
		order := far.Cmp(most)
		if least {
			order = 0
		}
		if worst == none || order > 0 || order == 0 && v < worst {
			worst, most = v, far
		}
	}
	t.waiting = t.waiting[:kept]
	return worst
}

// choice is a variable that could change its place in the rows.
type choice struct {
	v     int
	c     rat.Rat // how fast it moves what it is chosen for, or is moved: above 0
	width int     // how much there is to change
}

// ahead tells whether to choose a rather than b, which may be none: what moves fast, for then few steps are made, and of these what is quick to change; with least the least variable.
func (a choice) ahead(b choice, least bool) bool {
	if b.v == none || least {
		return b.v == none || a.v < b.v
	}
	if order := a.c.Cmp(b.c); order != 0 {
		return order > 0
	}
	return cmp.Or(cmp.Compare(a.width, b.width), cmp.Compare(a.v, b.v)) < 0
}

// choose tells one of the variables in the row of v that can move so that v rises, or falls, or none. (If v is always the least one that is out of its bounds, and this with least, the search ends: Bland.)
func (t *Tableau) choose(v int, up, least bool) int {
	best := choice{v: none}
	for j, c := range t.vars[v].row.of {
		x := &t.vars[j]
		if x.held(up == (c.Sign() > 0)) {
			continue
		}
		if next := (choice{j, size(c), len(x.users)}); next.ahead(best, least) {
			best = next
		}
	}
	return best.v
}

// bars tells the bounds by which all in the row of v are held, so that v, taken as often as its row does, cannot rise, or fall. What stands in a row does not hang on one another: so none of these bounds can be left out.
func (t *Tableau) bars(v int, up bool) []taken {
	var list []taken
	for j, c := range t.vars[v].row.of {
		list = append(list, taken{*t.vars[j].side(up == (c.Sign() > 0)), size(c)})
	}
	return list
}

// moves tells what each variable moves by, if one that is not basic moves by that.
func (t *Tableau) moves(v int, by delta) sparse[delta] {
	all := newSparse[delta]()
	all.add(v, by)
	for user := range t.vars[v].users {
		all.add(user, by.Mul(t.vars[user].row.share(v)))
	}
	return all
}

// shift moves variables.
func (t *Tableau) shift(moves sparse[delta]) {
	before := len(t.waiting)
	for v, by := range moves.of {
		t.vars[v].at = t.vars[v].at.Add(by)
		if t.vars[v].row != nil {
			t.watch(v)
		}
	}
	slices.Sort(t.waiting[before:])
}
