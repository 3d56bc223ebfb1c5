package simplex

import (
	"cmp"
	"slices"

	"arbiter/api"
	"arbiter/rat"
)

// limit is a bound, seen from its variable.
type limit struct {
	at  delta
	tag int
}

// saying is a bound in force, with what is to be known to take it back.
type saying struct {
	v      int
	upper  bool
	limit  *limit
	before *limit // what held the variable on that side ahead of it
}

// say brings a bound into force. Of the bounds on one side of a variable the tightest is the one to look at.
func (t *Tableau) say(v int, upper bool, l *limit) {
	l.at.a = l.at.a.Sub(t.constant(v))
	side := t.vars[v].side(upper)
	t.said = append(t.said, saying{v, upper, l, *side})
	t.tags[l.tag] = struct{}{}
	if *side != nil && !tighter(upper, l.at, (*side).at) {
		return
	}
	*side = l
	if !t.vars[v].touched {
		t.vars[v].touched = true
		t.touched = append(t.touched, v)
	}
	if t.vars[v].squeezed() {
		t.clashes = append(t.clashes, len(t.said)-1)
	}
}

// tighter tells whether a bound at a leaves less room than one at b.
func tighter(upper bool, a, b delta) bool {
	if upper {
		return a.Cmp(b) < 0
	}
	return a.Cmp(b) > 0
}

// unsay takes the last bound back.
func (t *Tableau) unsay() {
	last := len(t.said) - 1
	s := t.said[last]
	*t.vars[s.v].side(s.upper) = s.before
	delete(t.tags, s.limit.tag)
	t.said[last] = saying{}
	t.said = t.said[:last]
	if n := len(t.clashes); n > 0 && t.clashes[n-1] == last {
		t.clashes = t.clashes[:n-1]
	}
}

// taken is a bound, taken some times.
type taken struct {
	limit *limit
	times rat.Rat
}

// clash tells why there is no room between the bounds of a variable, if that is so of some. A form without variables is out of one of its bounds already, so that the other one can be left out.
func (t *Tableau) clash() []taken {
	if len(t.clashes) == 0 {
		return nil
	}
	v := t.said[t.clashes[0]].v
	low, high := taken{t.vars[v].low, one()}, taken{t.vars[v].high, one()}
	switch {
	case !t.fixed(v):
		return []taken{low, high}
	case low.limit.at.Sign() > 0:
		return []taken{low}
	}
	return []taken{high}
}

// shares tells bounds by their tags.
func shares(list []taken) []api.Share {
	told := make([]api.Share, len(list))
	for i, item := range list {
		told[i] = api.Share{Tag: item.limit.tag, C: item.times.Text()}
	}
	slices.SortFunc(told, func(a, b api.Share) int { return cmp.Compare(a.Tag, b.Tag) })
	return told
}
