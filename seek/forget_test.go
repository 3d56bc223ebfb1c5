package seek

import (
	"slices"
	"strconv"
	"testing"

	"arbiter/api"
	"arbiter/rup"
	"arbiter/unit"
)

// pigeons is clauses that one pigeon more than holes cannot make true.
func pigeons(holes int) api.Cnf {
	c := api.Cnf{Vars: (holes + 1) * holes}
	for p := range holes + 1 {
		var some []int
		for h := range holes {
			some = append(some, p*holes+h+1)
			for q := range p {
				c.Clauses = append(c.Clauses, []int{-(p*holes + h + 1), -(q*holes + h + 1)})
			}
		}
		c.Clauses = append(c.Clauses, some)
	}
	return c
}

// A search with next to no room forgets all the time, and learns the same again: A5 and A4 hold all the same. (With the room that it has, it would take long to come there.)
func TestLittleRoom(t *testing.T) {
	lookOverLittleRoom(t, pigeons(6), nil)
	c := pigeons(5)
	c.Vars += 2
	for i, clause := range c.Clauses {
		c.Clauses[i] = append(clause, -c.Vars+i%2) // they are asked for by the last two variables
	}
	lookOverLittleRoom(t, c, []int{3, c.Vars, c.Vars - 1})
}

func lookOverLittleRoom(t *testing.T, c api.Cnf, assume []int) {
	t.Helper()
	s := newSearch(c.Vars, assume, Hook{})
	for _, clause := range c.Clauses {
		s.heed(s.put(unit.Once(clause), none))
	}
	again := 0
	now := open
	for turns := 0; now == open; turns++ {
		s.patience = 1
		s.memory.room = 3 + turns/1000
		lessons, steps := s.memory.fresh, len(s.record.list)
		now = s.turn()
		if s.memory.fresh > lessons && len(s.record.list) == steps {
			again++
		}
	}
	if now != refuted || again == 0 || len(s.memory.gone) == 0 {
		t.Fatalf("the answer is %d; %d clauses were forgotten, and %d times one was learnt again", now, len(s.memory.gone), again)
	}
	learnt := map[string]int{}
	for i, step := range s.record.list {
		sorted := slices.Sorted(slices.Values(step.Lits))
		text := ""
		for _, lit := range sorted {
			text += strconv.Itoa(lit) + " "
		}
		if learnt[text] > 0 || slices.ContainsFunc(c.Clauses, func(l []int) bool { return slices.Equal(sorted, slices.Sorted(slices.Values(l))) }) {
			t.Errorf("A5: step %d, %v, is learnt twice", i, step.Lits)
		}
		learnt[text] = 1
	}
	var goal []int
	for _, lit := range s.failed {
		goal = append(goal, -lit)
	}
	for _, steps := range [][]api.Step{s.record.list, s.steps()} {
		if e, at := rup.Check(c, steps, goal); e != api.OK {
			t.Errorf("A4: of %d steps step %d does not stand", len(steps), at)
		}
	}
}
