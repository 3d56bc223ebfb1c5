// Package seek looks for an assignment under which clauses and assumptions are true and a theory has no objection: the search that learns clauses, for sat, and for quest, whose theory says too on which side it sees a variable.
package seek

import (
	"arbiter/api"
	"arbiter/cnf"
	"arbiter/order"
	"arbiter/unit"
)

// Hook is a theory beside the clauses; a field that is nil is not called.
type Hook struct {
	Assert func(lit int)                        // the literal has become true
	Undo   func(n int)                          // the last n literals are taken back
	Check  func(trail []int, full bool) [][]int // clauses that hold in the theory
	Side   func(v int) int                      // on which side it sees a variable: true (1), false (-1), neither (0)
}

// Solve looks for an assignment of the variables 1 to vars. All numbers in the clauses and the assumptions are literals of these.
func Solve(vars int, clauses [][]int, assume []int, h Hook) api.Outcome {
	s := newSearch(vars, assume, h)
	if s.run(clauses) == refuted {
		return api.Outcome{Steps: s.steps(), Failed: s.failed}
	}
	return api.Outcome{Sat: true, Lits: s.assignment()}
}

// steps tells the steps that are needed.
func (s *search) steps() []api.Step {
	var list []api.Step
	for _, number := range s.told(s.needed()) {
		list = append(list, s.record.list[number])
	}
	return list
}

// AreLiterals tells whether all of a list are literals of the variables 1 to vars.
func AreLiterals(list []int, vars int) bool {
	return cnf.Check(api.Cnf{Vars: vars, Tops: list}) == api.OK
}

// answer is how far a search has come.
type answer int

const (
	open    answer = iota // it goes on
	found                 // what is held is the assignment
	refuted               // there is none
)

// pace is how many conflicts one of Luby's row stands for.
const pace = 64

// search is a search under way. Each assumption has a level of its own, from 1 on, ahead of the levels of decisions.
type search struct {
	vars      int
	assume    []int // each once
	premises  []int // assumptions that are taken as clauses
	state     *unit.State
	order     *order.Order
	theory    theory
	memory    memory
	marks     []bool // by variable: a conflict has touched it
	record    record
	failed    []int
	restarts  int
	conflicts int // since it began anew
	patience  int // at so many of them it begins anew
}

func newSearch(vars int, assume []int, h Hook) *search {
	s := &search{
		vars:   vars,
		state:  unit.New(vars),
		theory: theory{hook: h, known: map[string]int{}},
		memory: memory{room: firstRoom, gone: map[string]int{}},
		marks:  make([]bool, vars+1),
	}
	s.order, _ = order.New(vars)
	last := map[int]int{} // by literal: its place among the assumptions
	for _, lit := range assume {
		if _, ok := last[lit]; !ok {
			last[lit] = len(s.assume)
			s.assume = append(s.assume, lit)
		}
	}
	s.wait()
	return s
}

// wait settles when the search begins anew next.
func (s *search) wait() {
	s.restarts++
	row, _ := order.Luby(s.restarts)
	s.conflicts = 0
	s.patience = pace * row
}

func (s *search) run(clauses [][]int) answer {
	for _, clause := range clauses {
		if s.heed(s.put(unit.Once(clause), none)) == refuted {
			return refuted
		}
	}
	for _, lit := range s.premises {
		if s.heed(s.put([]int{lit}, premise)) == refuted {
			return refuted
		}
	}
	for {
		if now := s.turn(); now != open {
			return now
		}
	}
}

// turn goes on by the next thing that is to be done.
func (s *search) turn() answer {
	if clash := s.state.Run(); clash != unit.None {
		return s.learn(clash)
	}
	if lemma, ok := s.theory.next(); ok {
		return s.take(lemma)
	}
	if s.state.Level() < len(s.assume) {
		return s.assumeNext()
	}
	if s.conflicts >= s.patience {
		s.wait()
		s.anew()
		return open
	}
	full := len(s.state.Trail()) == s.vars
	if s.theory.due(s.state.Trail(), full) {
		return s.ask(full)
	}
	if full {
		s.theory.tell(s.state.Trail())
		return found
	}
	s.decide()
	return open
}

// anew goes back to where all assumptions are held; or, if some of what was learnt is to be forgotten, to the begin.
func (s *search) anew() {
	if s.memory.fresh < s.memory.room {
		s.back(len(s.assume))
		return
	}
	s.back(0)
	s.forget()
}

// decide holds the literal of the next variable on the side on which the theory sees it, or else on that on which it stood last.
func (s *search) decide() {
	v := s.order.Take()
	for s.state.Value(v) != 0 {
		v = s.order.Take()
	}
	up, _ := s.order.Phase(v)
	if side := s.theory.side(v); side != 0 {
		up = side > 0
	}
	s.state.Open()
	if up {
		s.state.Hold(v, unit.None)
	} else {
		s.state.Hold(-v, unit.None)
	}
}

// back takes back the levels above this one, if there are such.
func (s *search) back(level int) {
	if s.state.Level() <= level {
		return
	}
	start := s.state.Start(level + 1)
	for _, lit := range s.state.Trail()[start:] {
		v := unit.Variable(lit)
		s.order.Save(v, lit > 0)
		s.order.Put(v)
	}
	s.state.Back(level)
	s.theory.cut(start)
}

// heed lets a clause that was just put say what it says: where all its literals but one are false, that one is held on the earliest level on which this is so; where all are false, something is learnt.
func (s *search) heed(clause int) answer {
	lits := s.state.Lits(clause)
	if len(lits) == 0 {
		s.record.use(clause)
		return refuted
	}
	level := 0
	if len(lits) > 1 {
		if s.state.Value(lits[1]) >= 0 {
			return open
		}
		level = s.state.LevelOf(lits[1])
	}
	first := lits[0]
	value := s.state.Value(first)
	settled := value != 0 && s.state.LevelOf(first) <= level
	if settled && value > 0 {
		return open
	}
	s.back(level)
	if settled {
		return s.learn(clause)
	}
	s.state.Hold(first, clause)
	return open
}

// assumeNext holds the next assumption, on a level of its own even if it is held already.
func (s *search) assumeNext() answer {
	lit := s.assume[s.state.Level()]
	value := s.state.Value(lit)
	if value < 0 {
		s.failed = s.blame(lit)
		return refuted
	}
	s.state.Open()
	if value == 0 {
		s.state.Hold(lit, unit.None)
	}
	return open
}

// assignment tells for each variable the literal that is held.
func (s *search) assignment() []int {
	lits := make([]int, s.vars)
	for i := range lits {
		v := i + 1
		lits[i] = v * int(s.state.Value(v))
	}
	return lits
}
