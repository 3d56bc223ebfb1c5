package seek

import (
	"slices"

	"arbiter/api"
	"arbiter/unit"
)

// lemma is a clause that was given, as it was given.
type lemma struct {
	number int
	lits   []int
}

// theory is the hook, and what was told to it and given by it. It is told what is held only when it is asked: what was taken back in between it need not know.
type theory struct {
	hook  Hook
	told  int            // how many literals are on its trail
	same  int            // how many of these, from the first on, are on the search's trail too
	count int            // how many clauses were given
	queue []lemma        // what was given and not taken in yet
	known map[string]int // by the text of its literals: the number under which a clause was first taken in
}

// cut says that the search's trail was cut down to this length.
func (t *theory) cut(length int) {
	t.same = min(t.same, length)
}

// tell brings the hook's trail to where the search's is.
func (t *theory) tell(trail []int) {
	if t.told > t.same && t.hook.Undo != nil {
		t.hook.Undo(t.told - t.same)
	}
	if t.hook.Assert != nil {
		for _, lit := range trail[t.same:] {
			t.hook.Assert(lit)
		}
	}
	t.told, t.same = len(trail), len(trail)
}

// due tells whether the hook is to be asked: of a full trail always; else when a part of it is new that grows with it, since asking takes as long as the trail is.
func (t *theory) due(trail []int, full bool) bool {
	if t.hook.Check == nil {
		return false
	}
	return full || len(trail)-t.same > len(trail)/64
}

// ask asks the hook, and queues what it gives.
func (t *theory) ask(trail []int, full bool, vars int) {
	t.tell(trail)
	for _, given := range t.hook.Check(slices.Clone(trail), full) {
		if AreLiterals(given, vars) {
			t.queue = append(t.queue, lemma{t.count, slices.Clone(given)})
		}
		t.count++
	}
}

// side tells on which side the theory sees a variable, if it does.
func (t *theory) side(v int) int {
	if t.hook.Side == nil {
		return 0
	}
	return t.hook.Side(v)
}

// next takes the first lemma out of the queue.
func (t *theory) next() (lemma, bool) {
	if len(t.queue) == 0 {
		return lemma{}, false
	}
	first := t.queue[0]
	t.queue = t.queue[1:]
	return first, true
}

// ask asks the theory; where all is held and it has no objection, that is the assignment.
func (s *search) ask(full bool) answer {
	s.theory.ask(s.state.Trail(), full, s.vars)
	if full && !slices.ContainsFunc(s.theory.queue, s.isFalse) {
		return found
	}
	return open
}

func (s *search) isFalse(l lemma) bool {
	return !slices.ContainsFunc(l.lits, func(lit int) bool { return s.state.Value(lit) >= 0 })
}

// take takes a lemma in, unless its like is there already.
func (s *search) take(l lemma) answer {
	lits := unit.Once(l.lits)
	text := textOf(lits)
	if _, ok := s.theory.known[text]; ok {
		return open
	}
	s.theory.known[text] = l.number
	return s.heed(s.put(lits, s.record.add(api.Step{Lemma: l.number, Lits: l.lits}, 0)))
}
