package seek

import (
	"slices"

	"arbiter/api"
	"arbiter/unit"
)

// learn learns a clause from one that is false, of which two literals or more are of the level that is open, and goes back to where it says something.
func (s *search) learn(clash int) answer {
	if s.state.Level() == 0 {
		s.record.use(clash)
		return refuted
	}
	lits := s.thin(s.resolve(clash))
	clear(s.marks)
	s.order.Decay()
	s.conflicts++
	step, again := s.memory.forgotten(lits)
	if !again {
		step = s.record.add(api.Step{Lemma: -1, Lits: lits}, s.state.Start(1))
	}
	s.record.used = nil
	clause := s.put(slices.Clone(lits), step)
	s.remember(clause)
	return s.heed(clause)
}

// resolve goes back from a clause that is false, by reasons, until just one literal of the level that is open is left; that one comes last.
func (s *search) resolve(clash int) []int {
	trail := s.state.Trail()
	lits, left := s.gather(nil, clash)
	for at := len(trail) - 1; ; at-- {
		if !s.marks[unit.Variable(trail[at])] {
			continue
		}
		if left == 1 {
			return append(lits, -trail[at])
		}
		more := 0
		lits, more = s.gather(lits, s.state.Reason(trail[at]))
		left += more - 1
	}
}

// gather touches the literals of a clause: those of earlier levels are put behind lits, those of the open level are counted.
func (s *search) gather(lits []int, clause int) ([]int, int) {
	s.record.use(clause)
	count := 0
	for _, lit := range s.state.Lits(clause) {
		if !s.touch(lit) {
			continue
		}
		if s.state.LevelOf(lit) == s.state.Level() {
			count++
		} else {
			lits = append(lits, lit)
		}
	}
	return lits, count
}

// touch marks the variable of a literal, and tells whether it plays a part and was not marked before. What is held on level 0 plays none: it follows from the clauses alone.
func (s *search) touch(lit int) bool {
	v := unit.Variable(lit)
	if s.marks[v] || s.state.LevelOf(lit) == 0 {
		return false
	}
	s.marks[v] = true
	s.order.Bump(v)
	return true
}

// thin leaves out the literals that are false wherever the others are.
func (s *search) thin(lits []int) []int {
	last := len(lits) - 1
	kept := lits[:0]
	for i, lit := range lits {
		if i == last || !s.follows(lit) {
			kept = append(kept, lit)
		}
	}
	return kept
}

// follows tells whether a literal is false by a clause whose other literals are marked, or false by the clauses alone.
func (s *search) follows(lit int) bool {
	reason := s.state.Reason(lit)
	if reason == unit.None {
		return false
	}
	for _, other := range s.state.Lits(reason) {
		if !s.marks[unit.Variable(other)] && s.state.LevelOf(other) > 0 {
			return false
		}
	}
	s.record.use(reason)
	return true
}

// blame tells assumptions that cannot be met together, the given one, which is false, among them.
func (s *search) blame(lit int) []int {
	s.record.used = s.grounds(s.record.used, []int{lit})
	s.marks[unit.Variable(lit)] = true
	trail := s.state.Trail()
	for at := len(trail) - 1; at >= 0 && s.state.LevelOf(trail[at]) > 0; at-- {
		reason := s.state.Reason(trail[at])
		if reason == unit.None || !s.marks[unit.Variable(trail[at])] {
			continue
		}
		s.record.use(reason)
		for _, other := range s.state.Lits(reason) {
			s.marks[unit.Variable(other)] = true
		}
	}
	var failed []int
	for _, other := range s.assume {
		assumed := s.state.Value(other) > 0 && s.state.Reason(other) == unit.None
		if other == lit || assumed && s.marks[unit.Variable(other)] {
			failed = append(failed, other)
		}
	}
	clear(s.marks)
	return failed
}
