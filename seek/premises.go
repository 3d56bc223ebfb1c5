package seek

import (
	"slices"

	"arbiter/api"
)

// Settle looks for an assignment as Solve does. The assumptions are held from the first, so that what is learnt need not name them, and is shorter and found sooner; those that a step comes from are put into it at the end.
func Settle(vars int, clauses [][]int, assume []int, h Hook) api.Outcome {
	s := newSearch(vars, assume, h)
	s.premises, s.assume = s.assume, nil
	if s.run(clauses) != refuted {
		return api.Outcome{Sat: true, Lits: s.assignment()}
	}
	return newTracer(s).outcome()
}

// outcome tells the steps and the premises that are needed.
func (t *tracer) outcome() api.Outcome {
	var out api.Outcome
	for _, number := range t.told(t.needed) {
		step := t.record.list[number]
		if step.Lemma == none {
			step.Lits = slices.Concat(step.Lits, t.opposites(t.step(number)))
		}
		out.Steps = append(out.Steps, step)
	}
	for _, lit := range t.opposites(t.all) {
		out.Failed = append(out.Failed, -lit)
	}
	return out
}

// room is how many words of bits a tracer may fill.
const room = 1 << 25

// tracer finds out which premises steps come from. A set of premises is bits, by their numbers.
type tracer struct {
	*search
	needed  []bool      // by clause
	numbers map[int]int // by literal of a premise: its number
	all     []uint64    // the premises that the end comes from, and all steps together
	rough   bool        // whether there is not room enough to tell steps apart
	steps   [][]uint64  // by step that was gone through
	facts   [][]uint64  // by place on the trail, on level 0, of those that were gone through
}

func newTracer(s *search) *tracer {
	t := &tracer{search: s, needed: s.needed(), numbers: map[int]int{}, steps: make([][]uint64, len(s.record.list))}
	for i, lit := range s.premises {
		t.numbers[lit] = i
	}
	count := 0
	for clause, is := range t.needed {
		if !is {
			continue
		}
		count++
		if s.record.steps[clause] == premise {
			t.all = t.join(t.all, t.single(clause))
		}
	}
	t.rough = count*len(t.all) > room
	return t
}

// opposites tells the opposites of the premises of a set.
func (t *tracer) opposites(set []uint64) []int {
	var list []int
	for i, lit := range t.premises {
		if i/64 < len(set) && set[i/64]>>(i%64)&1 == 1 {
			list = append(list, -lit)
		}
	}
	return list
}

// join puts what is in one set into another.
func (t *tracer) join(set, more []uint64) []uint64 {
	if len(more) > 0 && set == nil {
		set = make([]uint64, (len(t.premises)+63)/64)
	}
	for i, bits := range more {
		set[i] |= bits
	}
	return set
}

// step tells what a step that is needed comes from. All that are needed ahead of it have been gone through.
func (t *tracer) step(number int) []uint64 {
	if t.rough {
		return t.all
	}
	zero := t.record.zero[number]
	t.upTo(zero)
	t.steps[number] = t.from(t.record.from[number], zero)
	return t.steps[number]
}

// upTo goes through what is held on level 0 up to a place.
func (t *tracer) upTo(zero int) {
	for place := len(t.facts); place < zero && t.state.LevelOf(t.state.Trail()[place]) == 0; place++ {
		var set []uint64
		if reason := t.state.Reason(t.state.Trail()[place]); t.needed[reason] {
			set = t.from([]int{reason}, place)
		}
		t.facts = append(t.facts, set)
	}
}

// from tells what clauses come from, with what was held on level 0 ahead of a place.
func (t *tracer) from(clauses []int, zero int) []uint64 {
	var set []uint64
	for _, clause := range clauses {
		switch step := t.record.steps[clause]; step {
		case none:
		case premise:
			set = t.join(set, t.single(clause))
		default:
			set = t.join(set, t.steps[step])
		}
		for _, lit := range t.lits(clause) {
			if t.isGround(lit) && t.state.PlaceOf(lit) < zero {
				set = t.join(set, t.facts[t.state.PlaceOf(lit)])
			}
		}
	}
	return set
}

// single tells the set of the premise that a clause is.
func (t *tracer) single(clause int) []uint64 {
	number := t.numbers[t.lits(clause)[0]]
	set := make([]uint64, number/64+1)
	set[number/64] = 1 << (number % 64)
	return set
}
