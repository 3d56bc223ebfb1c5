package combine

import (
	"slices"

	"arbiter/api"
	"arbiter/num"
)

// coefs tells how often facts are taken if bounds are taken so often.
func (l *linear) coefs(shares []api.Share) []api.Coef {
	list := make([]api.Coef, len(shares))
	last := len(l.limits)
	for i, s := range shares {
		if s.Tag > last {
			e := s.Tag - last - 1
			list[i] = api.Coef{Kind: api.CoefEq, Ref: e / 2, C: s.C}
			if e%2 != 0 {
				list[i].C, _ = num.Sub("0", s.C)
			}
		} else {
			times, _ := num.Quo(s.C, l.limits[atomOf(s.Tag)].scale)
			list[i] = api.Coef{Kind: api.CoefLit, Ref: s.Tag, C: times}
		}
	}
	return list
}

// reason tells what a step rests on.
func (l *linear) reason(step api.Deriv) reason {
	why := reason{step: step}
	for _, c := range slices.Concat(step.Up, step.Down) {
		switch c.Kind {
		case api.CoefLit:
			why.lits = append(why.lits, c.Ref)
		case api.CoefEq:
			why.eqs = append(why.eqs, c.Ref)
		}
	}
	return why
}

// equality tells why two nodes must be the same. Nodes that are forms stand in the sum by their definitions.
func (l *linear) equality(p pair, e api.Equality) equality {
	step := api.Deriv{Kind: api.DerivLin, A: p.a, B: p.b, Up: l.coefs(e.Up), Down: l.coefs(e.Down)}
	step.Up = l.define(l.define(step.Up, p.a, "1"), p.b, "-1")
	step.Down = l.define(l.define(step.Down, p.a, "-1"), p.b, "1")
	return equality{p, func() reason { return l.reason(step) }}
}

// define adds the definition of a node to facts, if it has one.
func (l *linear) define(list []api.Coef, node int, times string) []api.Coef {
	if l.goal.Nodes[node].Kind != api.NodeLin {
		return list
	}
	return append(list, api.Coef{Kind: api.CoefDef, Ref: node, C: times})
}
