package rup

import (
	"slices"

	"arbiter/api"
	"arbiter/unit"
)

// trimmer takes clauses and steps away, one after the other. Clauses of c have the numbers from 0 on, the steps those behind them, the clause that is led to the last.
type trimmer struct {
	engine
	lits  [][]int // by number
	whys  [][]int // by number: the clauses by which it follows, rising; of a clause of c and of a lemma none
	users [][]int // by number: those that follow, or once followed, by it
	stays []bool
	short []int // the numbers of clauses with no literal or one, which are watched by nobody
	first int   // the number of the first step
}

func newTrimmer(c api.Cnf, steps []api.Step, clause []int, whys [][]int) *trimmer {
	t := &trimmer{engine: newEngine(c.Vars), lits: slices.Clone(c.Clauses), first: len(c.Clauses)}
	for _, step := range steps {
		t.lits = append(t.lits, step.Lits)
	}
	t.lits = append(t.lits, clause)
	t.whys = append(make([][]int, t.first), whys...)
	t.users = make([][]int, len(t.lits))
	t.stays = make([]bool, len(t.lits))
	return t
}

// trim leaves what cannot be left out. Steps go from the last to the first, then clauses: what could not go when it was tried cannot go later, since those that need it stay, and there is only less for them to follow by.
func (t *trimmer) trim() {
	t.reach()
	for number, lits := range t.lits {
		if !t.stays[number] {
			t.Mute(t.Put(nil))
			continue
		}
		t.Put(unit.Once(lits))
		if len(t.Lits(number)) < 2 {
			t.short = append(t.short, number)
		}
		why := t.whys[number]
		t.whys[number] = nil
		t.use(number, why)
	}
	for number := len(t.lits) - 2; number >= 0; number-- {
		if t.stays[number] {
			t.stays[number] = !t.drop(number)
		}
	}
}

// reach lets stay what the last clause comes from.
func (t *trimmer) reach() {
	last := len(t.lits) - 1
	t.stays[last] = true
	for number := last; number >= t.first; number-- {
		if t.stays[number] {
			for _, other := range t.whys[number] {
				t.stays[other] = true
			}
		}
	}
}

// use says by which clauses one follows from now on.
func (t *trimmer) use(number int, why []int) {
	slices.Sort(why)
	for _, other := range why {
		if !t.uses(number, other) {
			t.users[other] = append(t.users[other], number)
		}
	}
	t.whys[number] = why
}

func (t *trimmer) uses(number, other int) bool {
	_, ok := slices.BinarySearch(t.whys[number], other)
	return ok
}

// drop tries to leave a clause out, and tells whether all that stay still follow.
func (t *trimmer) drop(number int) bool {
	t.Mute(number)
	for _, user := range t.users[number] {
		if !t.uses(user, number) || !t.stays[user] {
			continue
		}
		why, ok := t.follows(t.lits[user], user)
		if !ok {
			t.Wake(number)
			return false
		}
		t.use(user, why)
	}
	return true
}

// follows tells whether a clause follows from those below a number that are not left out; if so, by which.
func (t *trimmer) follows(lits []int, number int) ([]int, bool) {
	t.Upto(number)
	t.Open()
	defer t.Back(0)
	t.deny(lits)
	clash := t.start()
	if clash == unit.None {
		clash = t.Run()
	}
	if clash == unit.None {
		return nil, false
	}
	return t.why(clash, lits), true
}

// start holds what clauses of one literal say; it tells one that is false, or unit.None.
func (t *trimmer) start() int {
	for _, number := range t.short {
		if !t.Plays(number) {
			continue
		}
		lits := t.Lits(number)
		if len(lits) == 0 || t.Value(lits[0]) < 0 {
			return number
		}
		if t.Value(lits[0]) == 0 {
			t.Hold(lits[0], number)
		}
	}
	return unit.None
}

// kept tells which of so many numbers from first on stay, as numbers from 0 on.
func (t *trimmer) kept(first, count int) []int {
	var list []int
	for i := range count {
		if t.stays[first+i] {
			list = append(list, i)
		}
	}
	return list
}
