package euf

import (
	"slices"

	"arbiter/api"
)

// pair is two cells that are the same.
type pair struct {
	x, y int
}

// reasons gathers the joins by which cells are the same, each once.
type reasons struct {
	graph *Graph
	past  map[int]int // of a cell from which the join is taken already: one further up
	seen  map[int]int // by cell: the last round in which it was come by
	round int
	joins []int
	pairs []pair // those that are to be gone through still
}

// reasons tells the joins by which the cells of pairs are the same, in the order in which they came: with each one made by congruence, those by which its arguments are the same.
func (g *Graph) reasons(pairs ...pair) []int {
	r := &reasons{graph: g, past: map[int]int{}, seen: map[int]int{}, pairs: pairs}
	for len(r.pairs) > 0 {
		p := r.pairs[len(r.pairs)-1]
		r.pairs = r.pairs[:len(r.pairs)-1]
		if p.x != p.y {
			meet := r.meet(p.x, p.y)
			r.climb(p.x, meet)
			r.climb(p.y, meet)
		}
	}
	slices.Sort(r.joins)
	return r.joins
}

// top goes up from a cell past all joins that are taken.
func (r *reasons) top(cell int) int {
	top := cell
	for next, past := r.past[top]; past; next, past = r.past[top] {
		top = next
	}
	for cell != top {
		cell, r.past[cell] = r.past[cell], top
	}
	return top
}

// meet tells where the ways of two cells to the root meet. Both are gone at the same pace, so that it takes no longer than the way from the one to the other.
func (r *reasons) meet(x, y int) int {
	r.round++
	for x, y = r.top(x), r.top(y); ; x, y = y, x {
		if x == none {
			continue
		}
		if r.seen[x] == r.round {
			return x
		}
		r.seen[x] = r.round
		if x = r.graph.toward[x]; x != none {
			x = r.top(x)
		}
	}
}

// climb takes the joins on the way from a cell up to another one.
func (r *reasons) climb(cell, stop int) {
	for cell = r.top(cell); cell != stop; cell = r.top(cell) {
		r.take(r.graph.edge[cell])
		r.past[cell] = r.graph.toward[cell]
	}
}

func (r *reasons) take(number int) {
	r.joins = append(r.joins, number)
	j := r.graph.joins[number]
	if j.why != none {
		return
	}
	others := r.graph.nodes[j.b].Args
	for i, arg := range r.graph.nodes[j.a].Args {
		r.pairs = append(r.pairs, pair{arg, others[i]})
	}
}

// tags tells the tags of the Equals among joins, and those given.
func (g *Graph) tags(joins []int, more ...int) []int {
	tags := more
	for _, number := range joins {
		if why := g.joins[number].why; why != none {
			tags = append(tags, g.said[why].tag)
		}
	}
	slices.Sort(tags)
	return slices.Compact(tags)
}

// Why tells tags by which two nodes are the same.
func (g *Graph) Why(a, b int) ([]int, api.Errno) {
	if !g.has(a, b) {
		return nil, api.ErrNode
	}
	if !g.same(a, b) {
		return nil, api.ErrApart
	}
	tags := g.tags(g.reasons(pair{a, b}))
	return g.bare(tags, func(t *Graph) bool { return t.same(a, b) }), api.OK
}

// WhyApart tells tags by which two nodes cannot be the same.
func (g *Graph) WhyApart(a, b int) ([]int, api.Errno) {
	if !g.has(a, b) {
		return nil, api.ErrNode
	}
	number := g.between(a, b)
	if number == none {
		return nil, api.ErrState
	}
	s := g.said[number]
	if !g.same(a, s.a) {
		s.a, s.b = s.b, s.a
	}
	tags := g.tags(g.reasons(pair{a, s.a}, pair{b, s.b}), s.tag)
	return g.bare(tags, func(t *Graph) bool { return t.between(a, b) != none }), api.OK
}

// WhyClash tells tags that cannot hold together.
func (g *Graph) WhyClash() ([]int, api.Errno) {
	if g.clash == none {
		return nil, api.ErrState
	}
	s := g.said[g.clash]
	tags := g.tags(g.reasons(pair{s.a, s.b}), s.tag)
	return g.bare(tags, (*Graph).Clash), api.OK
}

// bare leaves out of tags that suffice for something, which does not hold where nothing is said, as many as it can.
func (g *Graph) bare(tags []int, holds func(*Graph) bool) []int {
	if len(tags) < 2 {
		return tags
	}
	if g.trial == nil {
		g.trial = build(g.nodes)
	}
	return g.need(tags, false, holds)
}

// need tells which of these tags are needed beside what is said in the trial; more tells whether something was, since it was last known not to suffice. To take the halves in turns (QuickXplain) has each tag said as often as they can be halved, not once for each other tag.
func (g *Graph) need(tags []int, more bool, holds func(*Graph) bool) []int {
	if more && holds(g.trial) {
		return nil
	}
	if len(tags) == 1 {
		return tags
	}
	first, second := tags[:len(tags)/2], tags[len(tags)/2:]
	second = g.beside(first, second, holds)
	first = g.beside(second, first, holds)
	return slices.Concat(first, second)
}

// beside tells which of these tags are needed if others are said.
func (g *Graph) beside(others, tags []int, holds func(*Graph) bool) []int {
	g.trial.Push()
	for _, tag := range others {
		for number := g.last[tag]; number != none; number = g.said[number].before {
			g.trial.say(g.said[number])
		}
	}
	tags = g.need(tags, len(others) > 0, holds)
	g.trial.Pop(1)
	return tags
}
