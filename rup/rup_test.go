package rup_test

import (
	"math"
	"math/rand"
	"slices"
	"testing"

	"arbiter/api"
	"arbiter/rup"
	"arbiter/sat"
)

func TestUnit(t *testing.T) {
	for _, x := range []struct {
		c     api.Cnf
		lits  []int
		want  []int
		clash bool
	}{
		{four(), []int{-2}, nil, true},
		{four(), []int{2}, []int{1, 2, 3}, false},
		{four(), nil, nil, false},
		{four(), []int{3, 3}, []int{1, 2, 3}, false},
		{four(), []int{1, -1}, nil, true},
		{api.Cnf{Vars: 2, Clauses: [][]int{{1, 1}, {-1, 2, -1}, {2, -2}}}, nil, []int{1, 2}, false},
		{api.Cnf{Clauses: [][]int{{}}}, nil, nil, true},
		{api.Cnf{}, nil, nil, false},
		{api.Cnf{Vars: 2, Clauses: [][]int{{1, -1}}}, []int{-2, -1}, []int{-1, -2}, false},
		{api.Cnf{Vars: 3, Clauses: [][]int{{1}, {-1}}}, nil, nil, true},
		{api.Cnf{Vars: 3, Clauses: [][]int{{1}}}, []int{-1}, nil, true},
		{api.Cnf{Vars: 3, Clauses: [][]int{{1}}}, []int{1, -3}, []int{1, -3}, false},
		{api.Cnf{Vars: 3, Clauses: [][]int{{-3, 1, -2}, {-2, 2, 1}}}, []int{3, 2}, []int{1, 2, 3}, false},
	} {
		if got, clash, e := rup.Unit(x.c, x.lits); !slices.Equal(got, x.want) || clash != x.clash || e != api.OK {
			t.Errorf("U2: Unit(%v, %v): %v, %v, %d, want %v, %v", x.c, x.lits, got, clash, e, x.want, x.clash)
		}
	}
	for _, lits := range [][]int{{0}, {4}, {1, -4}, {1, -1, math.MinInt}, {math.MaxInt}} {
		if got, clash, e := rup.Unit(four(), lits); len(got) > 0 || clash || e != api.ErrVar {
			t.Errorf("U2: Unit(.., %v): %v, %v, %d", lits, got, clash, e)
		}
	}
}

// notClauses are what is refused ahead of all else.
var notClauses = []api.Cnf{
	{Vars: -1}, {Vars: 1000001}, {Vars: math.MaxInt}, {Vars: math.MinInt}, {Clauses: [][]int{{1}}}, {Vars: 2, Clauses: [][]int{{1}, {2, 0}}}, {Vars: 2, Clauses: [][]int{{}, {-3}}}, {Vars: 2, Clauses: [][]int{{math.MinInt}}},
}

func TestNotClauses(t *testing.T) {
	for _, c := range notClauses {
		if l, clash, e := rup.Unit(c, []int{0}); len(l) > 0 || clash || e != api.ErrCnf {
			t.Errorf("U1: Unit(%v): %v, %v, %d", c, l, clash, e)
		}
		bad := []api.Step{step(-1), step(-2)}
		if e, at := rup.Check(c, bad, []int{0}); e != api.ErrCnf || at != 0 {
			t.Errorf("U1: Check(%v): %d, %d", c, e, at)
		}
		if a, b, e := rup.Trim(c, bad, []int{0}); len(a)+len(b) > 0 || e != api.ErrCnf {
			t.Errorf("U1: Trim(%v): %v, %v, %d", c, a, b, e)
		}
		if l, e := rup.Hint(c, bad, []int{0}); len(l) > 0 || e != api.ErrCnf {
			t.Errorf("U1: Hint(%v): %v, %d", c, l, e)
		}
		lines := []api.Line{gone(), add([]int{0}, -1)}
		if e, at := rup.Follow(c, lines); e != api.ErrCnf || at != 0 {
			t.Errorf("U1: Follow(%v): %d, %d", c, e, at)
		}
		if s, e := rup.Show(c, lines); s != "" || e != api.ErrCnf {
			t.Errorf("U1: Show(%v): %q, %d", c, s, e)
		}
		if l, e, at := rup.Read(c, "    x"); len(l) > 0 || e != api.ErrCnf || at != 0 {
			t.Errorf("U1: Read(%v): %v, %d, %d", c, l, e, at)
		}
	}
	if api.ErrCnf != 62 || api.ErrVar != 70 || api.ErrStep != 71 || api.ErrSyntax != 40 {
		t.Error("P0.8: a number of api is another")
	}
}

func TestCheck(t *testing.T) {
	for _, x := range []struct {
		steps  []api.Step
		clause []int
		e      api.Errno
		at     int
	}{
		{nil, []int{2}, api.OK, 0},
		{nil, []int{-2}, api.ErrStep, 0},
		{[]api.Step{step(-1, 2)}, []int{1}, api.OK, 0},
		{[]api.Step{step(-1, -2), step(-1, 2)}, []int{1}, api.ErrStep, 0},
		{[]api.Step{step(-1, 2)}, []int{-3}, api.ErrStep, 1},
		{[]api.Step{step(5, -3)}, []int{-2}, api.OK, 0},
		{[]api.Step{step(-2, 2)}, []int{2}, api.ErrStep, 0},
		{[]api.Step{step(math.MinInt, 2)}, []int{2}, api.ErrStep, 0},
		{[]api.Step{step(math.MaxInt, 2)}, []int{1}, api.OK, 0},
		{[]api.Step{step(-1, 2), step(0, 4)}, []int{2}, api.ErrStep, 1},
		{[]api.Step{step(0, 1, 0)}, []int{2}, api.ErrStep, 0},
		{[]api.Step{step(-1, 2, 4)}, []int{2}, api.ErrStep, 0},
		{nil, []int{4, 2}, api.ErrStep, 0},
		{[]api.Step{step(-1, 2)}, []int{1, -1, 0}, api.ErrStep, 1},
		{nil, []int{1, -1}, api.OK, 0},
		{[]api.Step{step(-1, 3, 1, -3)}, []int{2, 2}, api.OK, 0},
		{[]api.Step{step(0)}, []int{-2}, api.OK, 0},
		{[]api.Step{step(0), step(-1, -1), step(-1)}, nil, api.OK, 0},
		{[]api.Step{step(0), step(-1, 4), step(-1)}, nil, api.ErrStep, 1},
		{[]api.Step{step(-1, 3), step(-1)}, nil, api.ErrStep, 1},
		{[]api.Step{step(3, -1), step(-1)}, nil, api.OK, 0},
	} {
		if e, at := rup.Check(four(), x.steps, x.clause); e != x.e || at != x.at {
			t.Errorf("U3: Check(.., %v, %v): %d, %d, want %d, %d", x.steps, x.clause, e, at, x.e, x.at)
		}
		want := x.e
		if a, b, e := rup.Trim(four(), x.steps, x.clause); e != want || e != api.OK && len(a)+len(b) > 0 {
			t.Errorf("U4: Trim(.., %v, %v): %v, %v, %d, want %d", x.steps, x.clause, a, b, e, want)
		}
		if slices.ContainsFunc(x.steps, func(s api.Step) bool { return s.Lemma != -1 }) {
			want = api.ErrStep
		}
		if l, e := rup.Hint(four(), x.steps, x.clause); e != want || e != api.OK && len(l) > 0 {
			t.Errorf("U5: Hint(.., %v, %v): %v, %d, want %d", x.steps, x.clause, l, e, want)
		}
	}
}

func TestTrim(t *testing.T) {
	two := api.Cnf{Vars: 2, Clauses: [][]int{{1}, {2}}}
	for _, x := range []struct {
		c          api.Cnf
		steps      []api.Step
		clause     []int
		core, stay []int
	}{
		{four(), []api.Step{step(-1, 2), step(-1, 3)}, []int{2}, []int{0, 1}, nil},
		{two, []api.Step{step(-1, 1)}, []int{2}, []int{1}, nil},
		{two, []api.Step{step(3, -2)}, nil, []int{1}, []int{0}},
		{two, nil, []int{2, -2}, nil, nil},
		{two, []api.Step{step(0, -1, -2)}, nil, []int{0, 1}, []int{0}},
		{api.Cnf{Vars: 1, Clauses: [][]int{{1, -1}, {}}}, nil, []int{1}, []int{1}, nil},
	} {
		core, stay := lookOverTrim(t, x.c, x.steps, x.clause, plainCheck)
		if !slices.Equal(core, x.core) || !slices.Equal(stay, x.stay) {
			t.Errorf("U4: Trim(%v, %v, %v): %v, %v, want %v, %v", x.c, x.steps, x.clause, core, stay, x.core, x.stay)
		}
	}
	// What only steps need that are not needed themselves goes with them, a step ahead of a step too.
	c := api.Cnf{Vars: 5, Clauses: [][]int{{1}, {-1, 2}, {-2, 3}, {-3, 4}, {-4, 5}, {5, 5}}}
	lookOverTrim(t, c, []api.Step{step(-1, 2), step(-1, 3), step(-1, 4), step(-1, 5), step(-1, 5, 1)}, []int{5}, plainCheck)
}

// Unit, Check, Trim and Hint against the plain ways.
func TestAgainstPlain(t *testing.T) {
	clashes, holds := 0, 0
	for seed := range int64(4000) {
		rng := rand.New(rand.NewSource(seed))
		c := someCnf(rng)
		lits := someClause(rng, c.Vars, 3)
		want, clash := plainUnit(c.Clauses, lits)
		got, hits, e := rup.Unit(c, lits)
		if e != api.OK || hits != clash || clash && len(got) > 0 {
			t.Fatalf("U2: Unit(%v, %v): %v, %v, %d, want %v", c, lits, got, hits, e, clash)
		}
		if clash {
			clashes++
		} else {
			var sorted []int
			for v := 1; v <= c.Vars; v++ {
				for _, l := range []int{v, -v} {
					if want[l] == 1 {
						sorted = append(sorted, l)
					}
				}
			}
			if !slices.Equal(got, sorted) {
				t.Fatalf("U2: Unit(%v, %v): %v, want %v", c, lits, got, sorted)
			}
		}
		var steps []api.Step
		for range rng.Intn(5) {
			steps = append(steps, step(rng.Intn(5)/3-1, someClause(rng, c.Vars+rng.Intn(12)/11, 4)...))
		}
		clause := someClause(rng, c.Vars, 3)
		e, at := rup.Check(c, steps, clause)
		wantE, wantAt := plainCheck(c, steps, clause)
		if e != wantE || at != wantAt {
			t.Fatalf("U3: Check(%v, %v, %v): %d, %d, want %d, %d", c, steps, clause, e, at, wantE, wantAt)
		}
		if e == api.OK {
			holds++
		}
		if _, _, e := rup.Trim(c, steps, clause); e != wantE {
			t.Fatalf("U4: Trim(%v, %v, %v): %d, want %d", c, steps, clause, e, wantE)
		}
	}
	if clashes < 500 || holds < 500 {
		t.Errorf("the test is one-sided: %d, %d", clashes, holds)
	}
}

func TestStepsThatStand(t *testing.T) {
	for seed := range int64(2500) {
		rng := rand.New(rand.NewSource(seed))
		c := someCnf(rng)
		steps, clause := someSteps(rng, c, seed%2 == 0)
		if e, at := rup.Check(c, steps, clause); e != api.OK || at != 0 {
			t.Fatalf("U3: Check(%v, %v, %v): %d, %d", c, steps, clause, e, at)
		}
		lookOverTrim(t, c, steps, clause, plainCheck)
		if slices.ContainsFunc(steps, func(s api.Step) bool { return s.Lemma >= 0 }) {
			if l, e := rup.Hint(c, steps, clause); e != api.ErrStep || len(l) > 0 {
				t.Fatalf("U5: Hint(%v, %v, %v): %v, %d", c, steps, clause, l, e)
			}
			continue
		}
		lines := lookOverHint(t, c, steps, clause)
		if e, at := rup.Follow(c, lines); e != api.OK || at != 0 {
			t.Fatalf("U6: Follow(%v, %v): %d, %d", c, lines, e, at)
		}
	}
}

// Derivations of a search, with clauses that are long, and of many steps.
func TestDerivationsOfASearch(t *testing.T) {
	for seed := range int64(12) {
		rng := rand.New(rand.NewSource(seed))
		c := api.Cnf{Vars: 40}
		for range 190 {
			c.Clauses = append(c.Clauses, []int{someLit(rng, c.Vars), someLit(rng, c.Vars), someLit(rng, c.Vars)})
		}
		o, _ := sat.Solve(c, nil, sat.Hook{})
		if o.Sat {
			continue
		}
		lookOverTrim(t, c, o.Steps, nil, rup.Check)
		lookOverHint(t, c, o.Steps, nil)
	}
	c := pigeons(5)
	o, _ := sat.Solve(c, nil, sat.Hook{})
	lookOverTrim(t, c, o.Steps, nil, rup.Check)
	lines := lookOverHint(t, c, o.Steps, nil)
	text, e := rup.Show(c, lines)
	if again, e2, at := rup.Read(c, text); e != api.OK || e2 != api.OK || at != 0 || !sameLines(lines, again) {
		t.Errorf("U11: %d, %d, %d", e, e2, at)
	}
}

// truths tells all assignments of so many variables as lists of literals.
func truths(vars int) [][]int {
	var all [][]int
	for n := range 1 << vars {
		var lits []int
		for i := range vars {
			lits = append(lits, (i+1)*(2*(n>>i&1)-1))
		}
		all = append(all, lits)
	}
	return all
}

func allTrue(clauses [][]int, lits []int) bool {
	return !slices.ContainsFunc(clauses, func(clause []int) bool {
		return !slices.ContainsFunc(clause, func(l int) bool { return slices.Contains(lits, l) })
	})
}

// U9: what is derived is true wherever what it comes from is. U10: more clauses never take away.
func TestSoundAndMonotone(t *testing.T) {
	for seed := range int64(600) {
		rng := rand.New(rand.NewSource(seed))
		c := someCnf(rng)
		c.Vars = min(c.Vars, 5)
		c.Clauses = slices.DeleteFunc(c.Clauses, func(l []int) bool { return !areLiterals(l, c.Vars) })
		steps, clause := someSteps(rng, c, true)
		given, derived := slices.Clone(c.Clauses), [][]int{clause}
		for _, s := range steps {
			derived = append(derived, s.Lits)
			if s.Lemma >= 0 {
				given = append(given, s.Lits)
			}
		}
		for _, lits := range truths(c.Vars) {
			if allTrue(given, lits) && !allTrue(derived, lits) {
				t.Fatalf("U9: Check(%v, %v, %v) is OK", c, steps, clause)
			}
		}
		more := api.Cnf{Vars: c.Vars, Clauses: append(slices.Clone(c.Clauses), someCnf(rng).Clauses...)}
		more.Clauses = slices.DeleteFunc(more.Clauses, func(l []int) bool { return !areLiterals(l, c.Vars) })
		rng.Shuffle(len(more.Clauses), func(i, j int) { more.Clauses[i], more.Clauses[j] = more.Clauses[j], more.Clauses[i] })
		if e, at := rup.Check(more, steps, clause); e != api.OK {
			t.Fatalf("U10: Check(%v, %v, %v): %d, %d, and with fewer clauses it is OK", more, steps, clause, e, at)
		}
		lits := someClause(rng, c.Vars, 2)
		few, clash, _ := rup.Unit(c, lits)
		many, hits, _ := rup.Unit(more, lits)
		if clash && !hits || !hits && slices.ContainsFunc(few, func(l int) bool { return !slices.Contains(many, l) }) {
			t.Fatalf("U10: Unit(.., %v): %v, %v of %v, %v, %v of %v", lits, few, clash, c, many, hits, more)
		}
	}
}

// As many variables as there may be, and steps one upon the other.
func TestMany(t *testing.T) {
	const count = 200000
	c := api.Cnf{Vars: api.MaxVars, Clauses: [][]int{{1}}}
	var steps []api.Step
	for v := 1; v < count; v++ {
		c.Clauses = append(c.Clauses, []int{-v, v + 1, -c.Vars}, []int{-v, v + 1, c.Vars})
		steps = append(steps, step(-1, -v, v+1))
	}
	if e, at := rup.Check(c, steps, []int{count}); e != api.OK || at != 0 {
		t.Errorf("U3: %d, %d", e, at)
	}
	if e, at := rup.Check(c, steps[:count-2], []int{count}); e != api.OK || at != 0 { // by the last two clauses together
		t.Errorf("U3: %d, %d", e, at)
	}
	if e, at := rup.Check(c, steps[:count-3], []int{count}); e != api.ErrStep || at != count-3 {
		t.Errorf("U3: %d, %d", e, at)
	}
	held, clash, e := rup.Unit(api.Cnf{Vars: c.Vars, Clauses: append(slices.Clone(c.Clauses), []int{c.Vars})}, nil)
	if clash || e != api.OK || len(held) != count+1 || held[count] != c.Vars {
		t.Errorf("U2: %d, %v, %d", len(held), clash, e)
	}
	core, stay, e := rup.Trim(c, steps, []int{count, 5})
	if e != api.OK || len(core) != 9 || len(stay) < 3 || len(stay) > 4 {
		t.Errorf("U4: %d, %d, %d", len(core), len(stay), e)
	}
	lines, e := rup.Hint(c, steps[:count/2], []int{count/2 + 1})
	if e != api.OK || len(lines) != count/2+1 || len(lines[count/2].Hints) > count {
		t.Errorf("U5: %d, %d", len(lines), e)
	}
	if e, at := rup.Follow(c, lines); e != api.OK {
		t.Errorf("U6: %d, %d", e, at)
	}
}

// Where much is held by itself, and where a clause is long, no call takes a time that grows with the square of it.
func TestLong(t *testing.T) {
	const count = 200000
	chain := api.Cnf{Vars: count, Clauses: [][]int{{1}}}
	var steps []api.Step
	for v := 1; v < count; v++ {
		chain.Clauses = append(chain.Clauses, []int{-v, v + 1})
		steps = append(steps, step(-1, v+1))
	}
	if e, at := rup.Check(chain, steps, []int{count}); e != api.OK || at != 0 {
		t.Errorf("U3: %d, %d", e, at)
	}
	lines, e := rup.Hint(chain, steps, []int{count})
	if e != api.OK || len(lines) != count {
		t.Fatalf("U5: %d lines, %d", len(lines), e)
	}
	if e, at := rup.Follow(chain, lines); e != api.OK {
		t.Errorf("U6: %d, %d", e, at)
	}
	var long, all []int
	for v := 1; v <= count; v++ {
		long = append(long, -v)
		all = append(all, v)
	}
	c := api.Cnf{Vars: count, Clauses: [][]int{long}}
	if held, clash, e := rup.Unit(c, all[1:]); len(held) != count || clash || e != api.OK || held[0] != -1 {
		t.Errorf("U2: %d held, %v, %d", len(held), clash, e)
	}
	if held, clash, e := rup.Unit(c, all); len(held) > 0 || !clash || e != api.OK {
		t.Errorf("U2: %d held, %v, %d", len(held), clash, e)
	}
	if core, stay, e := rup.Trim(c, []api.Step{step(-1, long...)}, long); len(core) != 1 || len(stay) > 0 || e != api.OK {
		t.Errorf("U4: %v, %v, %d", core, stay, e)
	}
}
