package seek

import (
	"math/rand"
	"slices"
	"testing"

	"arbiter/api"
	"arbiter/rup"
)

func anyClauses(r *rand.Rand, vars, count, size int) [][]int {
	var list [][]int
	for range count {
		var clause []int
		for range 1 + r.Intn(size) {
			lit := 1 + r.Intn(vars)
			if r.Intn(2) == 0 {
				lit = -lit
			}
			clause = append(clause, lit)
		}
		list = append(list, clause)
	}
	return list
}

// objector is a theory in which clauses hold: it gives those that are false.
type objector struct {
	clauses, given [][]int
}

func (o *objector) check(trail []int, full bool) [][]int {
	var list [][]int
	for _, clause := range o.clauses {
		if !slices.ContainsFunc(clause, func(lit int) bool { return !slices.Contains(trail, -lit) }) {
			list = append(list, clause)
		}
	}
	o.given = append(o.given, list...)
	return list
}

// stands looks over that an outcome that is not Sat is shown by its steps.
func stands(t *testing.T, c api.Cnf, assume []int, given [][]int, out api.Outcome) {
	t.Helper()
	var clause []int
	last := -1
	for _, lit := range out.Failed {
		clause = append(clause, -lit)
		at := slices.Index(assume, lit)
		if at <= last {
			t.Fatalf("of %v failed %v", assume, out.Failed)
		}
		last = at
	}
	for _, step := range out.Steps {
		if step.Lemma >= 0 && !slices.Equal(step.Lits, given[step.Lemma]) {
			t.Fatalf("the step %v is not what was given", step)
		}
	}
	if err, at := rup.Check(c, out.Steps, clause); err != api.OK {
		t.Fatalf("%v under %v: the step %d of %v does not stand", c, assume, at, out)
	}
}

// TestSettle: Settle answers as Solve does, and its steps and what failed stand.
func TestSettle(t *testing.T) {
	r := rand.New(rand.NewSource(11))
	counts := [2]int{}
	for range 4000 {
		vars := 1 + r.Intn(12)
		c := api.Cnf{Vars: vars, Clauses: anyClauses(r, vars, r.Intn(4*vars), 4)}
		theory := anyClauses(r, vars, r.Intn(vars), 3)
		var assume []int
		for _, unit := range anyClauses(r, vars, r.Intn(vars+2), 1) {
			assume = append(assume, unit[0])
		}
		one, two := &objector{clauses: theory}, &objector{clauses: theory}
		out := Settle(vars, c.Clauses, assume, Hook{Check: one.check})
		if other := Solve(vars, c.Clauses, assume, Hook{Check: two.check}); other.Sat != out.Sat {
			t.Fatalf("%v and %v under %v: %v, but Solve says %v", c, theory, assume, out, other)
		}
		if !out.Sat {
			counts[0]++
			stands(t, c, assume, one.given, out)
			continue
		}
		counts[1]++
		for _, clause := range slices.Concat(c.Clauses, theory) {
			if !slices.ContainsFunc(clause, func(lit int) bool { return slices.Contains(out.Lits, lit) }) {
				t.Fatalf("%v under %v: %v is false", c, assume, clause)
			}
		}
		for _, lit := range assume {
			if !slices.Contains(out.Lits, lit) {
				t.Fatalf("%v under %v: %d is false", c, assume, lit)
			}
		}
	}
	if counts[0] < 500 || counts[1] < 500 {
		t.Errorf("too few of one kind: %v", counts)
	}
}

// TestTraced: pigeons, each of whose clauses is asked for by an assumption: what is learnt names some of these alone; where there is no room to tell steps apart, all that failed.
func TestTraced(t *testing.T) {
	c := pigeons(5)
	var assume []int
	for i, clause := range c.Clauses {
		c.Vars++
		c.Clauses[i] = append(clause, -c.Vars)
		assume = append(assume, c.Vars)
	}
	c.Vars += 2
	assume = append(assume, c.Vars, -c.Vars+1) // these play no part
	for _, rough := range []bool{false, true} {
		s := newSearch(c.Vars, assume, Hook{})
		s.premises, s.assume = s.assume, nil
		if s.run(c.Clauses) != refuted {
			t.Fatal("there is room for all pigeons")
		}
		tracer := newTracer(s)
		tracer.rough = rough
		out := tracer.outcome()
		stands(t, c, assume, nil, out)
		least := len(out.Failed)
		for _, step := range out.Steps {
			named := 0
			for _, lit := range step.Lits {
				if lit <= -assume[0] {
					named++
				}
			}
			least = min(least, named)
		}
		if slices.Contains(out.Failed, c.Vars) || slices.Contains(out.Failed, -c.Vars+1) {
			t.Errorf("%v failed of %v", out.Failed, assume)
		}
		if rough != (least == len(out.Failed)) || len(out.Failed) < 40 {
			t.Errorf("%d failed, of which a step names %d", len(out.Failed), least)
		}
	}
}
