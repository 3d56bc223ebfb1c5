package simplex

import "arbiter/rat"

// variable is one of the tableau's.
type variable struct {
	at        delta            // what it is worth, less the constant of its form
	low, high *limit           // its tightest bounds, less that constant too
	row       *row             // of a basic one
	users     map[int]struct{} // of one that is not: the basic ones in whose rows it stands
	awake     bool
	touched   bool // it stands among those whose bounds were drawn tighter
	waiting   bool // it stands among those out of their bounds
}

// side is the place of the bound on one side.
func (x *variable) side(upper bool) **limit {
	if upper {
		return &x.high
	}
	return &x.low
}

// squeezed tells whether its bounds leave no room between them.
func (x *variable) squeezed() bool {
	return x.low != nil && x.high != nil && x.low.at.Cmp(x.high.at) > 0
}

// broken tells the bound that it is out of, or nil, and whether it is above that.
func (x *variable) broken() (*limit, bool) {
	switch {
	case x.low != nil && x.at.Cmp(x.low.at) < 0:
		return x.low, false
	case x.high != nil && x.at.Cmp(x.high.at) > 0:
		return x.high, true
	}
	return nil, false
}

// held tells whether it cannot rise, or fall, since it is at its bound.
func (x *variable) held(up bool) bool {
	bound := *x.side(up)
	return bound != nil && !tighter(up, x.at, bound.at)
}

// extra is the number behind all variables: that of a row that is there while a question is answered.
func (t *Tableau) extra() int {
	return len(t.vars) - 1
}

// constant tells the constant of a variable's form.
func (t *Tableau) constant(v int) rat.Rat {
	if v < t.free {
		return rat.Rat{}
	}
	return t.forms[v-t.free].k
}

// fixed tells whether the form of a variable is a constant alone.
func (t *Tableau) fixed(v int) bool {
	return v >= t.free && len(t.forms[v-t.free].parts) == 0
}

// worth tells what a variable is worth at the point where the tableau is.
func (t *Tableau) worth(v int) delta {
	at := t.vars[v].at
	if !t.vars[v].awake {
		at = t.asleep(v)
	}
	at.a = at.a.Add(t.constant(v))
	return at
}

// asleep tells what a row that sleeps is worth, less its constant.
func (t *Tableau) asleep(v int) delta {
	var at delta
	for _, p := range t.forms[v-t.free].parts {
		if part := &t.vars[p.v].at; part.Sign() != 0 {
			at = at.Add(part.Mul(p.c))
		}
	}
	return at
}

// gap tells what a is worth there, less what b is.
func (t *Tableau) gap(a, b int) delta {
	return t.worth(a).Sub(t.worth(b))
}
