package combine

import (
	"slices"

	"arbiter/api"
)

// view numbers what the nodes are worth.
func (l *linear) view() []int {
	l.find()
	if l.labels != nil {
		return l.labels
	}
	l.labels = make([]int, len(l.vars))
	numbers := map[string]int{}
	for node, v := range l.vars {
		if v == none {
			continue
		}
		label, known := numbers[l.point[v]]
		if !known {
			label = len(numbers)
			numbers[l.point[v]] = label
		}
		l.labels[node] = label
	}
	return l.labels
}

// find finds a point, if none is known.
func (l *linear) find() {
	if l.point == nil {
		l.point, _ = l.tableau.Apart(l.apart)
	}
}

// kin is what applications have in common that are the same by congruence.
type kin struct {
	fun, class int
}

// wants looks for applications of one function that are the same in the other's view, but not in its own.
func (l *linear) wants(view func() []int, counts func(node int) bool) []pair {
	list := chosen(l.families, counts)
	if len(list) < 2 {
		return nil
	}
	other, own := view(), l.view()
	first := map[kin]int{}
	var pairs []pair
	for _, node := range list {
		key := kin{l.goal.Nodes[node].Fun, other[node]}
		mate, known := first[key]
		if !known {
			first[key] = node
		} else if own[mate] != own[node] {
			pairs = append(pairs, pair{mate, node})
		}
	}
	return pairs
}

// forced looks at once whether all pairs can be apart, for mostly they can; if not, at one after the other.
func (l *linear) forced(pairs []pair) []equality {
	l.tableau.Check()
	l.labels = nil
	all := slices.Clone(l.apart)
	for _, p := range pairs {
		all = append(all, l.both(p))
	}
	point, err := l.tableau.Apart(all)
	l.point = point
	if err == api.OK {
		l.apart = all
		return nil
	}
	var found []equality
	for len(pairs) > 0 {
		p := pairs[0]
		e, _ := l.tableau.Equal(l.vars[p.a], l.vars[p.b])
		if e.Same {
			found = append(found, l.equality(p, e))
			pairs = pairs[1:]
		} else {
			pairs = l.part(pairs, e.Point)
		}
	}
	return found
}

func (l *linear) both(p pair) api.Both {
	return api.Both{A: l.vars[p.a], B: l.vars[p.b]}
}

// part notes the pairs that a point shows not to be forced, and tells the others.
func (l *linear) part(pairs []pair, at []api.Delta) []pair {
	var others []pair
	for _, p := range pairs {
		if both := l.both(p); at[both.A] != at[both.B] {
			l.apart = append(l.apart, both)
		} else {
			others = append(others, p)
		}
	}
	return others
}

func (l *linear) shows(lit int) bool {
	limit := l.limits[atomOf(lit)]
	if limit.v == none {
		return false
	}
	l.find()
	return within(limit.bound(lit), l.point[limit.v])
}

func (l *linear) value(values []api.Value) {
	l.find()
	for node, v := range l.vars {
		if v != none {
			values[node] = api.Value{Sort: api.SortReal, R: l.point[v]}
		}
	}
}
