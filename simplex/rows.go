package simplex

import (
	"arbiter/api"
	"arbiter/rat"
)

// form is what a row is over the variables that are free.
type form struct {
	parts []part
	k     rat.Rat
}

type part struct {
	v int
	c rat.Rat
}

// readForm takes a form over that is known to be canonical.
func readForm(lin api.Lin) form {
	f := form{parts: make([]part, len(lin.M))}
	for i, mono := range lin.M {
		c, _ := rat.Parse(mono.C)
		f.parts[i] = part{mono.V, c}
	}
	f.k, _ = rat.Parse(lin.K)
	return f
}

// row says what a basic variable is: taken own times, it is the sum of others, taken as often as the numbers say. All of these are whole, have no common divisor, and own is above 0: to reckon so takes far fewer divisors to be looked for than a fraction for each of them would.
type row struct {
	own rat.Rat
	sparse[rat.Rat]
}

// newRow makes a row of fractions, which it takes for its own.
func newRow(of sparse[rat.Rat]) *row {
	r := &row{one(), of}
	common := rat.Word(1)
	for _, c := range of.of {
		lower := c.Lower()
		missing, _ := lower.DivMod(lower.Gcd(common))
		common = common.Mul(missing)
	}
	r.widen(rat.Whole(false, common))
	r.reduce()
	return r
}

// share tells how often the variable has the other one j.
func (r *row) share(j int) rat.Rat {
	return r.of[j].Quo(r.own)
}

// widen takes all numbers c times; c is above 0.
func (r *row) widen(c rat.Rat) {
	if c.Cmp(one()) != 0 {
		r.own = r.own.Mul(c)
		r.scale(c)
	}
}

// reduce takes out what divides all numbers.
func (r *row) reduce() {
	common := r.own.Upper()
	for _, c := range r.of {
		if common.IsOne() {
			return
		}
		common = common.Gcd(c.Upper())
	}
	if common.IsOne() {
		return
	}
	r.own = wholePart(r.own, common)
	for j, c := range r.of {
		r.of[j] = wholePart(c, common)
	}
}

// wholePart tells a whole number over one that divides it.
func wholePart(q rat.Rat, by rat.Nat) rat.Rat {
	quotient, _ := q.Upper().DivMod(by)
	return rat.Whole(q.Sign() < 0, quotient)
}

// turn makes the row of v one of j, which stands in it.
func (r *row) turn(v, j int) {
	c := r.of[j]
	delete(r.of, j)
	r.of[v] = r.own.Neg()
	if c.Sign() > 0 {
		r.scale(one().Neg())
	}
	r.own = size(c)
}

// wake gives a variable that sleeps a row.
func (t *Tableau) wake(v int) {
	if t.vars[v].awake {
		return
	}
	sum := newSparse[rat.Rat]()
	t.spell(sum, v, one())
	t.vars[v].at = t.asleep(v)
	t.vars[v].awake = true
	t.enter(v, newRow(sum))
}

// sleep takes the row of a basic variable away that has no bound.
func (t *Tableau) sleep(v int) {
	t.leave(v)
	t.vars[v].awake = false
}

// spell adds c times a variable, less its constant, to a sum of those that are not basic.
func (t *Tableau) spell(sum sparse[rat.Rat], v int, c rat.Rat) {
	x := &t.vars[v]
	switch {
	case x.row != nil:
		sum.addTimes(x.row.sparse, c.Quo(x.row.own))
	case x.awake:
		sum.add(v, c)
	default:
		for _, p := range t.forms[v-t.free].parts {
			t.spell(sum, p.v, c.Mul(p.c))
		}
	}
}

// enter makes a variable basic.
func (t *Tableau) enter(v int, r *row) {
	t.vars[v].row = r
	for j := range r.of {
		t.use(j, v)
	}
}

// leave takes a basic variable's row out.
func (t *Tableau) leave(v int) *row {
	r := t.vars[v].row
	for j := range r.of {
		delete(t.vars[j].users, v)
	}
	t.vars[v].row = nil
	return r
}

// use notes that j stands in the row of v.
func (t *Tableau) use(j, v int) {
	if t.vars[j].users == nil {
		t.vars[j].users = map[int]struct{}{}
	}
	t.vars[j].users[v] = struct{}{}
}

// pivot makes j basic in the place of v, in whose row it stands. What the variables are worth stays as it is.
func (t *Tableau) pivot(v, j int) {
	r := t.leave(v)
	r.turn(v, j)
	users := t.vars[j].users
	t.vars[j].users = nil
	t.credit += len(users) * len(r.of)
	for user := range users {
		t.replace(user, j, r)
	}
	t.enter(j, r)
}

// replace puts what j is, by its row, in its place in the row of a basic variable.
func (t *Tableau) replace(user, j int, by *row) {
	own := t.vars[user].row
	c := own.of[j]
	delete(own.of, j)
	common := c.Upper().Gcd(by.own.Upper())
	own.widen(wholePart(by.own, common))
	c = wholePart(c, common)
	for k, n := range by.of {
		if own.add(k, n.Mul(c)) {
			t.use(k, user)
		} else {
			delete(t.vars[k].users, user)
		}
	}
	own.reduce()
}
