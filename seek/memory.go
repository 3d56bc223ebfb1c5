package seek

import (
	"cmp"
	"slices"

	"arbiter/unit"
	"arbiter/words"
)

// How many clauses may be learnt before some are forgotten, and how many more each time. It must grow: then at last there is room for all that can be learnt, and the search ends.
const (
	firstRoom = 2000
	moreRoom  = 300
)

// dearSpread is the spread up to which nothing is forgotten.
const dearSpread = 2

// lesson is a clause that was learnt.
type lesson struct {
	clause int
	spread int // how many levels its literals were of: the fewer, the likelier it is to say something soon
	size   int
}

// memory is what was learnt.
type memory struct {
	lessons []lesson       // those that play a part
	fresh   int            // how many were learnt since some were forgotten
	room    int            // at so many of these some are to be forgotten
	gone    map[string]int // by its text: the step of a clause that was forgotten
	levels  []int          // by level: the last spread that counted it
	spreads int            // how many spreads were counted
}

// forgotten tells the step of a clause like this one, if it was learnt and forgotten.
func (m *memory) forgotten(lits []int) (int, bool) {
	if len(m.gone) == 0 {
		return none, false
	}
	step, ok := m.gone[textOf(unit.Once(lits))]
	return step, ok
}

// textOf tells the text of literals that are in order.
func textOf(lits []int) string {
	return string(words.AppendList(nil, lits))
}

// spread counts the levels of literals.
func (s *search) spread(lits []int) int {
	m := &s.memory
	m.spreads++
	count := 0
	for _, lit := range lits {
		level := s.state.LevelOf(lit)
		for level >= len(m.levels) {
			m.levels = append(m.levels, 0)
		}
		if m.levels[level] != m.spreads {
			m.levels[level] = m.spreads
			count++
		}
	}
	return count
}

// remember keeps a clause whose literals are still held as they were when it was learnt.
func (s *search) remember(clause int) {
	lits := s.state.Lits(clause)
	s.memory.lessons = append(s.memory.lessons, lesson{clause, s.spread(lits), len(lits)})
	s.memory.fresh++
}

// forget takes the worse half of what was learnt out of play. No level may be open: then no clause is a reason that will be asked for.
func (s *search) forget() {
	m := &s.memory
	m.fresh = 0
	m.room += moreRoom
	slices.SortFunc(m.lessons, func(a, b lesson) int {
		return cmp.Or(cmp.Compare(a.spread, b.spread), cmp.Compare(a.size, b.size), cmp.Compare(b.clause, a.clause))
	})
	stay := len(m.lessons) / 2
	for stay < len(m.lessons) && m.lessons[stay].spread <= dearSpread {
		stay++
	}
	for _, l := range m.lessons[stay:] {
		m.gone[textOf(unit.Once(s.state.Lits(l.clause)))] = s.record.steps[l.clause]
		s.state.Mute(l.clause)
	}
	m.lessons = m.lessons[:stay]
	s.state.Sweep()
}
