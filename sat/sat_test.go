package sat_test

import (
	"math"
	"math/rand"
	"slices"
	"testing"

	"arbiter/api"
	"arbiter/rup"
	"arbiter/sat"
)

var three = api.Cnf{Vars: 3, Clauses: [][]int{{1, 2}, {-1, 2}, {-2, 3}}}

func nothing([]int, bool) [][]int { return nil }

// The chapter's examples.
func TestExamples(t *testing.T) {
	one := func(clauses ...[]int) api.Cnf { return api.Cnf{Vars: 1, Clauses: clauses} }
	for _, x := range []struct {
		c      api.Cnf
		assume []int
		give   func([]int, bool) [][]int
		sat    bool
		told   [][]int // Lits or Failed that may be told
	}{
		{three, nil, nil, true, [][]int{{1, 2, 3}, {-1, 2, 3}}},
		{three, []int{1}, nil, true, [][]int{{1, 2, 3}}},
		{three, []int{1, -3}, nil, false, [][]int{{-3}, {1, -3}}},
		{three, []int{-3, 1, -3}, nil, false, [][]int{{-3}, {-3, 1}}},
		{three, []int{-2}, nothing, false, [][]int{{-2}}},
		{one([]int{1}, []int{-1}), []int{1}, nil, false, [][]int{nil, {1}}},
		{one([]int{1, -1}), []int{1, -1}, nil, false, [][]int{{1, -1}}},
		{api.Cnf{}, nil, nil, true, [][]int{nil}},
		{api.Cnf{}, nil, nothing, true, [][]int{nil}},
		{api.Cnf{Clauses: [][]int{{}}}, nil, nil, false, [][]int{nil}},
		{three, nil, func([]int, bool) [][]int { return [][]int{{-2}, {5}} }, false, [][]int{nil}},
		{api.Cnf{Vars: 2}, nil, func(_ []int, full bool) [][]int { return [][]int{{}}[:min(1, map[bool]int{true: 1}[full])] }, false, [][]int{nil}},
		{one([]int{1}), []int{-1}, nothing, false, [][]int{{-1}}},
		{api.Cnf{Vars: 2}, nil, func(trail []int, full bool) [][]int {
			if full && !holdsUnder([]int{1, 2}, trail) {
				return [][]int{{1, 2}}
			}
			return nil
		}, true, [][]int{{1, 2}, {1, -2}, {-1, 2}}},
		{api.Cnf{Vars: 1, Tops: []int{0, 9, math.MinInt}}, []int{-1}, nil, true, [][]int{{-1}}},
	} {
		o, _ := solve(t, x.c, x.assume, x.give)
		told := o.Failed
		if o.Sat {
			told = o.Lits
		}
		if o.Sat != x.sat || !slices.ContainsFunc(x.told, func(l []int) bool { return slices.Equal(l, told) }) {
			t.Errorf("A3, A4: Solve(%v, %v): %v", x.c, x.assume, o)
		}
	}
}

func TestErrors(t *testing.T) {
	called := false
	h := sat.Hook{
		Assert: func(int) { called = true },
		Undo:   func(int) { called = true },
		Check:  func([]int, bool) [][]int { called = true; return nil },
	}
	for _, x := range []struct {
		c      api.Cnf
		assume []int
		e      api.Errno
	}{
		{api.Cnf{Vars: -1}, []int{7}, api.ErrCnf},
		{api.Cnf{Vars: 1000001}, nil, api.ErrCnf},
		{api.Cnf{Vars: math.MaxInt}, nil, api.ErrCnf},
		{api.Cnf{Vars: math.MinInt}, nil, api.ErrCnf},
		{api.Cnf{Vars: 2, Clauses: [][]int{{1}, {2, 0}}}, nil, api.ErrCnf},
		{api.Cnf{Vars: 2, Clauses: [][]int{{}, {-3}}}, []int{9}, api.ErrCnf},
		{api.Cnf{Vars: 2, Clauses: [][]int{{math.MinInt}}}, nil, api.ErrCnf},
		{api.Cnf{Clauses: [][]int{{1}}}, nil, api.ErrCnf},
		{three, []int{4}, api.ErrVar},
		{three, []int{1, -1, 0}, api.ErrVar},
		{three, []int{math.MinInt}, api.ErrVar},
		{three, []int{math.MaxInt}, api.ErrVar},
		{api.Cnf{Clauses: [][]int{{}}}, []int{1}, api.ErrVar},
	} {
		o, e := sat.Solve(x.c, x.assume, h)
		if e != x.e || o.Sat || len(o.Lits)+len(o.Steps)+len(o.Failed) > 0 || called {
			t.Errorf("A2: Solve(%v, %v): %v, %d, want %d; the hook is called: %v", x.c, x.assume, o, e, x.e, called)
		}
	}
	if api.ErrCnf != 62 || api.ErrVar != 70 || api.MaxVars != 1000000 {
		t.Error("P0.8: a number of api is another")
	}
}

// Without a hook the verdict is what trying finds; and what A8 says.
func TestAgainstTrying(t *testing.T) {
	count := map[bool]int{}
	for seed := range int64(3000) {
		rng := rand.New(rand.NewSource(seed))
		vars := 1 + rng.Intn(7)
		c := api.Cnf{Vars: vars, Clauses: someClauses(rng, vars, rng.Intn(30))}
		assume := someClause(rng, vars, 4)
		o, _ := solve(t, c, assume, nil)
		if want := possible(vars, c.Clauses, assume); o.Sat != want {
			t.Fatalf("A7: Solve(%v, %v): %v, want %v", c, assume, o, want)
		}
		count[o.Sat]++
		v := 1 + rng.Intn(vars)
		up, _ := solve(t, c, append(slices.Clone(assume), v), nil)
		down, _ := solve(t, c, append(slices.Clone(assume), -v), nil)
		if o.Sat != (up.Sat || down.Sat) {
			t.Fatalf("A8: Solve(%v, %v): %v, with %d %v, with its opposite %v", c, assume, o.Sat, v, up.Sat, down.Sat)
		}
		if !o.Sat {
			if again, _ := solve(t, c, o.Failed, nil); again.Sat {
				t.Fatalf("A8: Solve(%v, %v): Failed %v can be met", c, assume, o.Failed)
			}
		}
	}
	if count[true] < 300 || count[false] < 300 {
		t.Errorf("the test is one-sided: %v", count)
	}
}

// Clauses that need some search, looked over by chapter 12.
func TestHarder(t *testing.T) {
	for seed := range int64(60) {
		rng := rand.New(rand.NewSource(seed))
		vars := 40 + rng.Intn(30)
		c := api.Cnf{Vars: vars}
		for range vars * 9 / 2 {
			c.Clauses = append(c.Clauses, []int{someLit(rng, vars), someLit(rng, vars), someLit(rng, vars)})
		}
		assume := someClause(rng, vars, 6)
		o, e := sat.Solve(c, assume, sat.Hook{})
		if e != api.OK {
			t.Fatal(e)
		}
		if o.Sat {
			lookOverSat(t, c, assume, o, &watcher{})
		} else if e, at := rup.Check(c, o.Steps, negated(o.Failed)); e != api.OK {
			t.Fatalf("A4: step %d does not stand", at)
		}
	}
}

// So many conflicts that learnt clauses are forgotten and learnt again.
func TestForgotten(t *testing.T) {
	c := pigeons(8)
	o, e := sat.Solve(c, nil, sat.Hook{})
	if e != api.OK || o.Sat || len(o.Failed) != 0 || len(o.Steps) < 6000 {
		t.Fatalf("A4: nine pigeons in eight holes: %v, %d, %d steps", o.Sat, e, len(o.Steps))
	}
	learnt := map[string]int{}
	for _, clause := range c.Clauses {
		learnt[asSet(clause)] = 1
	}
	for _, s := range o.Steps {
		if s.Lemma != -1 {
			t.Fatalf("A4: a lemma without a hook: %v", s)
		}
		lookOverLearnt(t, s.Lits, learnt)
		learnt[asSet(s.Lits)] = 1
	}
	if e, at := rup.Check(c, o.Steps, nil); e != api.OK {
		t.Fatalf("A4: step %d does not stand", at)
	}
}

func TestPigeonsUnderAssumptions(t *testing.T) {
	c := pigeons(5)
	c.Vars += 2
	for i, clause := range c.Clauses {
		c.Clauses[i] = append(clause, -c.Vars) // they are asked for by the last variable alone
	}
	o, _ := solve(t, c, []int{1, c.Vars, -c.Vars + 1, 7}, nil)
	if o.Sat || !slices.Contains(o.Failed, c.Vars) || slices.Contains(o.Failed, 1-c.Vars) {
		t.Errorf("A4: %v", o.Failed)
	}
	if o, _ := solve(t, c, []int{1, 1 - c.Vars, 7}, nil); !o.Sat {
		t.Errorf("A3: %v", o)
	}
}

// Texts of any length: as many variables as there may be, in a chain; and as many assumptions.
func TestMany(t *testing.T) {
	c := api.Cnf{Vars: api.MaxVars}
	for v := 1; v < c.Vars; v++ {
		c.Clauses = append(c.Clauses, []int{-v, v + 1})
	}
	o, e := sat.Solve(c, []int{1}, sat.Hook{})
	if e != api.OK || !o.Sat || len(o.Lits) != c.Vars || slices.Min(o.Lits) < 0 {
		t.Errorf("A3: a chain: %v, %d", o.Sat, e)
	}
	o, e = sat.Solve(c, []int{1, 5, -c.Vars}, sat.Hook{})
	if e != api.OK || o.Sat || !slices.Contains(o.Failed, -c.Vars) || len(o.Failed) != 2 {
		t.Errorf("A4: a chain: %v, %v, %d", o.Sat, o.Failed, e)
	}
	var all []int
	for v := range c.Vars {
		all = append(all, -v-1, -v-1)
	}
	o, e = sat.Solve(c, all, sat.Hook{})
	if e != api.OK || !o.Sat || len(o.Lits) != c.Vars || slices.Max(o.Lits) > 0 {
		t.Errorf("A3: as many assumptions: %v, %d", o.Sat, e)
	}
	var wide []int
	for v := range 300000 {
		wide = append(wide, v+1)
	}
	o, e = sat.Solve(api.Cnf{Vars: 300000, Clauses: [][]int{wide}}, all[:600000], sat.Hook{})
	if e != api.OK || o.Sat || len(o.Failed) != 300000 {
		t.Errorf("A4: a wide clause: %v, %d failed, %d", o.Sat, len(o.Failed), e)
	}
	long := slices.Repeat([]int{1, -2}, 500000)
	o, e = sat.Solve(api.Cnf{Vars: 2, Clauses: [][]int{long, {2}}}, []int{-1}, sat.Hook{})
	if e != api.OK || o.Sat || !slices.Equal(o.Failed, []int{-1}) {
		t.Errorf("A4: a long clause: %v, %d", o, e)
	}
}
