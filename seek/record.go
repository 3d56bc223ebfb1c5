package seek

import (
	"slices"

	"arbiter/api"
)

// What a clause is that is no step: one of those that were given at first, or a premise, an assumption that is taken as a clause.
const (
	none    = -1
	premise = -2
)

// record is the steps so far, and which clauses each of them comes from: at the end those are told that are needed.
type record struct {
	list  []api.Step
	from  [][]int // by step: clauses
	zero  []int   // by step: how many literals were held on level 0 when it was learnt
	steps []int   // by clause: the step that it is, or none, or premise
	used  []int   // the clauses that play a part in what is worked out
}

// use says that a clause plays a part.
func (r *record) use(clause int) {
	r.used = append(r.used, clause)
}

// add puts a step behind the others, which comes from what was used, and tells its number. A lemma comes from nothing.
func (r *record) add(step api.Step, zero int) int {
	r.list = append(r.list, step)
	r.from = append(r.from, r.used)
	r.zero = append(r.zero, zero)
	return len(r.list) - 1
}

// put takes in a clause that is a step, or none, or a premise.
func (s *search) put(lits []int, step int) int {
	s.record.steps = append(s.record.steps, step)
	return s.state.Put(lits)
}

// lits tells the literals of a clause, even if the state has let go of them.
func (s *search) lits(clause int) []int {
	if step := s.record.steps[clause]; step >= 0 {
		return s.record.list[step].Lits
	}
	return s.state.Lits(clause)
}

// needed tells, by clause, which ones the end comes from, for which what was used last plays a part.
func (s *search) needed() []bool {
	r := &s.record
	needed := make([]bool, len(r.steps))
	for list := slices.Clone(r.used); len(list) > 0; {
		clause := list[len(list)-1]
		list = list[:len(list)-1]
		if needed[clause] {
			continue
		}
		needed[clause] = true
		if step := r.steps[clause]; step >= 0 {
			list = append(list, r.from[step]...)
		}
		list = s.grounds(list, s.lits(clause))
	}
	return needed
}

// grounds puts behind a list the clauses by which literals are false on level 0: what is held there is taken for granted by all that comes later.
func (s *search) grounds(list, lits []int) []int {
	for _, lit := range lits {
		if s.isGround(lit) {
			list = append(list, s.state.Reason(lit))
		}
	}
	return list
}

// isGround tells whether a literal is false on level 0.
func (s *search) isGround(lit int) bool {
	return s.state.Value(lit) < 0 && s.state.LevelOf(lit) == 0
}

// told tells the steps that are needed, in their order.
func (s *search) told(needed []bool) []int {
	is := make([]bool, len(s.record.list))
	for clause, step := range s.record.steps {
		if step >= 0 && needed[clause] {
			is[step] = true
		}
	}
	var list []int
	for step := range is {
		if is[step] {
			list = append(list, step)
		}
	}
	return list
}
