package proof

import (
	"slices"

	"arbiter/api"
	"arbiter/lin"
	"arbiter/num"
)

// atMost tells whether facts add up to a - b + k with a k that is not below 0: then a is not above b.
func (l *lemma) atMost(list []api.Coef, a, b int) bool {
	cons, times, ok := l.facts(list)
	if !ok {
		return false
	}
	sum, err := lin.Combine(cons, times)
	if err != api.OK {
		return false
	}
	return slices.Equal(sum.F.M, difference(a, b).M) && sign(sum.F.K) >= 0
}

// difference tells the form a - b.
func difference(a, b int) api.Lin {
	f, _ := lin.Form([]api.Mono{{V: a, C: "1"}, {V: b, C: "-1"}}, "0")
	return f
}

// sign tells whether a canonical number is below 0 (-1), 0, or above it (1).
func sign(text string) int {
	s, _ := num.Cmp(text, "0")
	return s
}

// facts tells the facts that coefficients name, how many times each is taken, and whether all are such.
func (l *lemma) facts(list []api.Coef) ([]api.Con, []string, bool) {
	cons, times := make([]api.Con, len(list)), make([]string, len(list))
	for i, c := range list {
		con, ok := l.fact(c)
		if !ok {
			return nil, nil, false
		}
		cons[i], times[i] = con, c.C
	}
	return cons, times, true
}

// fact tells the fact that a coefficient names, and whether it may be taken so many times. (Whether that is a canonical number, the sum finds out.)
func (l *lemma) fact(c api.Coef) (api.Con, bool) {
	switch c.Kind {
	case api.CoefLit:
		con, ok := l.bound(c.Ref)
		return con, ok && sign(c.C) > 0
	case api.CoefEq:
		if !l.isEarlier(c.Ref) {
			return api.Con{}, false
		}
		d := l.derivs[c.Ref]
		return api.Con{Op: api.ConEq, F: difference(d.A, d.B)}, true
	case api.CoefDef:
		if !l.isNode(c.Ref) || l.goal.Nodes[c.Ref].Kind != api.NodeLin {
			return api.Con{}, false
		}
		return api.Con{Op: api.ConEq, F: l.definition(c.Ref)}, true
	}
	return api.Con{}, false
}

// bound tells the constraint that a literal says, and whether it is held and says one.
func (l *lemma) bound(lit int) (api.Con, bool) {
	if _, ok := l.held[lit]; !ok || l.atom(lit).Kind != api.AtomCon {
		return api.Con{}, false
	}
	con := l.atom(lit).Con
	if lit > 0 {
		return con, true
	}
	opposite, _ := lin.Opposite(con)
	return opposite[0], true
}

// isEarlier tells whether a number is that of a step that says that two numbers are the same.
func (l *lemma) isEarlier(number int) bool {
	if number < 0 || number >= len(l.derivs) {
		return false
	}
	d := l.derivs[number]
	return l.isReal(d.A) && l.isReal(d.B)
}

// definition tells the form that a node of a linear form less that form is.
func (l *lemma) definition(node int) api.Lin {
	f, _ := lin.Scale(l.goal.Nodes[node].Lin, "-1")
	f, _ = lin.Form(append(f.M, api.Mono{V: node, C: "1"}), f.K)
	return f
}
