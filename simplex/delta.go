package simplex

import (
	"arbiter/api"
	"arbiter/rat"
)

// delta is a delta number: a, and b times what is smaller than every rational above 0.
type delta struct {
	a, b rat.Rat
}

// readDelta tells the number, and whether it is one.
func readDelta(d api.Delta) (delta, bool) {
	a, okA := rat.Parse(d.A)
	b, okB := rat.Parse(d.B)
	return delta{a, b}, okA && okB
}

func (d delta) tell() api.Delta {
	return api.Delta{A: d.a.Text(), B: d.b.Text()}
}

// Add tells d + e.
func (d delta) Add(e delta) delta {
	return delta{d.a.Add(e.a), d.b.Add(e.b)}
}

// Sub tells d - e.
func (d delta) Sub(e delta) delta {
	return delta{d.a.Sub(e.a), d.b.Sub(e.b)}
}

// Mul tells c times d.
func (d delta) Mul(c rat.Rat) delta {
	return delta{d.a.Mul(c), d.b.Mul(c)}
}

// Sign tells -1, 0 or 1, as d is below, equal to or above 0.
func (d delta) Sign() int {
	if sign := d.a.Sign(); sign != 0 {
		return sign
	}
	return d.b.Sign()
}

// Cmp tells -1, 0 or 1, as d is below, equal to or above e.
func (d delta) Cmp(e delta) int {
	if order := d.a.Cmp(e.a); order != 0 {
		return order
	}
	return d.b.Cmp(e.b)
}

// plain tells what d is worth where the infinitely small part is that number.
func (d delta) plain(small rat.Rat) rat.Rat {
	return d.a.Add(d.b.Mul(small))
}

// root tells the only t for which d and t times step can be 0 together, and whether there is one; step may be 0.
func (d delta) root(step delta) (rat.Rat, bool) {
	if step.a.Sign() != 0 {
		return d.a.Quo(step.a).Neg(), true
	}
	if step.b.Sign() != 0 {
		return d.b.Quo(step.b).Neg(), true
	}
	return rat.Rat{}, false
}

// distance tells how far two numbers are from one another.
func distance(d, e delta) delta {
	far := d.Sub(e)
	if far.Sign() < 0 {
		return e.Sub(d)
	}
	return far
}

func whole(n uint64) rat.Rat {
	return rat.Whole(false, rat.Word(n))
}

func one() rat.Rat {
	return whole(1)
}

// size tells the number without its sign.
func size(q rat.Rat) rat.Rat {
	if q.Sign() < 0 {
		return q.Neg()
	}
	return q
}
