package rup

import (
	"cmp"
	"slices"

	"arbiter/api"
	"arbiter/unit"
)

// engine is clauses with what is held, and marks to go back from a clash to where it comes from.
type engine struct {
	*unit.State
	marks []int // by variable: the last time that it was met
	times int
}

func newEngine(vars int) engine {
	return engine{State: unit.New(vars), marks: make([]int, vars+1)}
}

// opposed tells whether a literal stands beside its opposite.
func opposed(lits []int) bool {
	lits = unit.Once(lits)
	for i := 1; i < len(lits); i++ {
		if lits[i] == -lits[i-1] {
			return true
		}
	}
	return false
}

// deny holds the opposites of literals that are not held already.
func (e *engine) deny(lits []int) {
	for _, lit := range lits {
		if e.Value(lit) == 0 {
			e.Hold(-lit, unit.None)
		}
	}
}

// why tells the clauses by which a clause is false where the literals of denied are: each but the last holds one literal more, the last is that clause.
func (e *engine) why(clause int, denied []int) []int {
	e.times++
	for _, lit := range denied {
		e.marks[unit.Variable(lit)] = e.times
	}
	met := e.meet(nil, clause)
	for i := 0; i < len(met); i++ {
		met = e.meet(met, e.Reason(met[i]))
	}
	slices.SortFunc(met, func(a, b int) int { return cmp.Compare(e.PlaceOf(a), e.PlaceOf(b)) })
	clauses := make([]int, 0, len(met)+1)
	for _, v := range met {
		clauses = append(clauses, e.Reason(v))
	}
	return append(clauses, clause)
}

// meet puts behind met the variables of a clause that were not met yet.
func (e *engine) meet(met []int, clause int) []int {
	for _, lit := range e.Lits(clause) {
		v := unit.Variable(lit)
		if e.marks[v] != e.times {
			e.marks[v] = e.times
			met = append(met, v)
		}
	}
	return met
}

// base is clauses, and what follows from them alone, held on level 0.
type base struct {
	engine
	vars  int
	clash int // the clause that is false on level 0, or unit.None
}

func newBase(c api.Cnf) *base {
	b := &base{newEngine(c.Vars), c.Vars, unit.None}
	for _, clause := range c.Clauses {
		b.put(clause)
	}
	return b
}

// put takes a clause in, and holds what follows with it.
func (b *base) put(clause []int) {
	number := b.Put(unit.Once(clause))
	if b.clash != unit.None {
		return
	}
	lits := b.Lits(number)
	switch {
	case len(lits) == 0 || b.Value(lits[0]) < 0:
		b.clash = number
	case b.Value(lits[0]) == 0 && (len(lits) == 1 || b.Value(lits[1]) < 0):
		b.Hold(lits[0], number)
		b.clash = b.Run()
	case len(lits) == 1:
		b.HoldBy(lits[0], number) // so that what comes from it is told shortly
	}
}

// firstHeld tells which of the literals was held first of all, or 0.
func (b *base) firstHeld(lits []int) int {
	first := 0
	for _, lit := range lits {
		if b.Value(lit) > 0 && (first == 0 || b.PlaceOf(lit) < b.PlaceOf(first)) {
			first = lit
		}
	}
	return first
}

// refute holds the opposites of literals, and tells the clause that is false then, or unit.None. None of the literals stands beside its opposite.
func (b *base) refute(lits []int) int {
	// Of several that are held the first: the clauses that it comes from hold none of the others.
	if first := b.firstHeld(lits); first != 0 {
		return b.Reason(first)
	}
	if b.clash != unit.None {
		return b.clash
	}
	b.deny(lits)
	return b.Run()
}

// unit tells what follows from literals, by their variables, and whether that clashes.
func (b *base) unit(lits []int) ([]int, bool) {
	denied := make([]int, len(lits))
	for i, lit := range lits {
		denied[i] = -lit
	}
	b.Open()
	if opposed(denied) || b.refute(denied) != unit.None {
		return nil, true
	}
	return unit.Once(b.Trail()), false
}

// follows tells whether a clause follows; if so, and if that is wanted, by which clauses, in the order in which they are needed.
func (b *base) follows(lits []int, wanted bool) ([]int, bool) {
	if opposed(lits) {
		return nil, true
	}
	b.Open()
	defer b.Back(0)
	clash := b.refute(lits)
	if clash == unit.None || !wanted {
		return nil, clash != unit.None
	}
	return b.why(clash, lits), true
}

// lookOver answers as Check does; if tell is not nil, it is told, step by step, the clauses and steps by which each follows (of a lemma none), then those of the clause.
func (b *base) lookOver(steps []api.Step, clause []int, tell func([]int)) (api.Errno, int) {
	for i, step := range steps {
		if step.Lemma < -1 || !b.stands(step.Lits, step.Lemma == -1, tell) {
			return api.ErrStep, i
		}
		b.put(step.Lits)
	}
	if !b.stands(clause, true, tell) {
		return api.ErrStep, len(steps)
	}
	return api.OK, 0
}

// stands tells whether a clause is one and, if it must, follows.
func (b *base) stands(lits []int, must bool, tell func([]int)) bool {
	if !areLiterals(lits, b.vars) {
		return false
	}
	var why []int
	ok := true
	if must {
		why, ok = b.follows(lits, tell != nil)
	}
	if ok && tell != nil {
		tell(why)
	}
	return ok
}

// reasons tells for each step the clauses (of c, then the steps) by which it follows, and at the end those of the clause.
func reasons(c api.Cnf, steps []api.Step, clause []int) ([][]int, api.Errno) {
	if err := check(c); err != api.OK {
		return nil, err
	}
	var whys [][]int
	tell := func(why []int) { whys = append(whys, why) }
	if err, _ := newBase(c).lookOver(steps, clause, tell); err != api.OK {
		return nil, err
	}
	return whys, api.OK
}
