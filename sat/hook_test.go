package sat_test

import (
	"math"
	"math/rand"
	"slices"
	"testing"

	"arbiter/api"
	"arbiter/rup"
	"arbiter/sat"
)

// theories are ways in which a hook may give clauses that are to be true; all of them object to a full trail under which one is false.
var theories = []struct {
	name string
	give func(rng *rand.Rand, clauses [][]int, trail []int, full bool) [][]int
}{
	{"all each time", func(_ *rand.Rand, clauses [][]int, _ []int, _ bool) [][]int { return clauses }},
	{"those that are false", func(_ *rand.Rand, clauses [][]int, trail []int, _ bool) [][]int { return falseOnes(clauses, trail) }},
	{"the first that is false, if full", func(_ *rand.Rand, clauses [][]int, trail []int, full bool) [][]int {
		some := falseOnes(clauses, trail)
		return some[:min(len(some), map[bool]int{true: 1}[full])]
	}},
	{"those that say something", func(_ *rand.Rand, clauses [][]int, trail []int, _ bool) [][]int {
		return slices.DeleteFunc(slices.Clone(clauses), func(c []int) bool {
			return slices.ContainsFunc(without(c, c[0]), func(l int) bool { return !slices.Contains(trail, -l) })
		})
	}},
	{"some, and those that are false if full", func(rng *rand.Rand, clauses [][]int, trail []int, full bool) [][]int {
		var some [][]int
		if full {
			some = falseOnes(clauses, trail)
		}
		for _, c := range clauses {
			if rng.Intn(3) == 0 {
				some = append(some, c)
			}
		}
		rng.Shuffle(len(some), func(i, j int) { some[i], some[j] = some[j], some[i] })
		return some
	}},
	{"with what makes no sense", func(rng *rand.Rand, clauses [][]int, trail []int, full bool) [][]int {
		some := append(falseOnes(clauses, trail), []int{0}, []int{1, -1}, []int{math.MinInt, 1}, []int{9999}, clauses[0], clauses[0], append([]int{1, -1}, clauses[0]...))
		rng.Shuffle(len(some), func(i, j int) { some[i], some[j] = some[j], some[i] })
		return some
	}},
}

func falseOnes(clauses [][]int, trail []int) [][]int {
	return slices.DeleteFunc(slices.Clone(clauses), func(c []int) bool { return !isFalseUnder(c, trail) })
}

// The verdict is that of the clauses together with those of the hook, whichever way it gives them.
func TestTheories(t *testing.T) {
	count := map[bool]int{}
	for _, theory := range theories {
		for seed := range int64(500) {
			rng := rand.New(rand.NewSource(seed))
			vars := 1 + rng.Intn(7)
			c := api.Cnf{Vars: vars, Clauses: someClauses(rng, vars, rng.Intn(15))}
			var hidden [][]int
			for range 1 + rng.Intn(20) {
				hidden = append(hidden, append(someClause(rng, vars, 4), someLit(rng, vars)))
			}
			assume := someClause(rng, vars, 3)
			o, _ := solve(t, c, assume, func(trail []int, full bool) [][]int { return theory.give(rng, hidden, trail, full) })
			if want := possible(vars, append(slices.Clone(c.Clauses), hidden...), assume); o.Sat != want {
				t.Fatalf("A7: %s: Solve(%v, %v) with %v: %v, want %v", theory.name, c, assume, hidden, o, want)
			}
			count[o.Sat]++
		}
	}
	if count[true] < 500 || count[false] < 500 {
		t.Errorf("the test is one-sided: %v", count)
	}
}

// Clauses that need some search, part of them the theory's.
func TestLargerTheories(t *testing.T) {
	count := map[bool]int{}
	for _, theory := range theories {
		for seed := range int64(25) {
			rng := rand.New(rand.NewSource(seed))
			vars := 20 + rng.Intn(70)
			c := api.Cnf{Vars: vars}
			var hidden [][]int
			for range vars * 42 / 10 {
				clause := []int{someLit(rng, vars), someLit(rng, vars), someLit(rng, vars)}
				if rng.Intn(3) == 0 {
					hidden = append(hidden, clause)
				} else {
					c.Clauses = append(c.Clauses, clause)
				}
			}
			assume := someClause(rng, vars, 3)
			o, _ := solve(t, c, assume, func(trail []int, full bool) [][]int { return theory.give(rng, hidden, trail, full) })
			all := api.Cnf{Vars: vars, Clauses: append(slices.Clone(c.Clauses), hidden...)}
			if plain, _ := sat.Solve(all, assume, sat.Hook{}); plain.Sat != o.Sat {
				t.Fatalf("A7: %s: seed %d: %v, and %v where all clauses are told ahead", theory.name, seed, o.Sat, plain.Sat)
			}
			count[o.Sat]++
		}
	}
	if count[true] < 20 || count[false] < 20 {
		t.Errorf("the test is one-sided: %v", count)
	}
}

// A hook that gives whatever comes to it, new clauses each time: the call ends, and the answer is right for what was given.
func TestWhims(t *testing.T) {
	count := map[bool]int{}
	for seed := range int64(2500) {
		rng := rand.New(rand.NewSource(seed))
		vars := 1 + rng.Intn(8)
		c := api.Cnf{Vars: vars, Clauses: someClauses(rng, vars, rng.Intn(12))}
		assume := someClause(rng, vars, 3)
		whim := 1 + rng.Intn(4)
		o, w := solve(t, c, assume, func(trail []int, full bool) [][]int {
			var some [][]int
			for range rng.Intn(4) {
				clause := someClause(rng, vars+rng.Intn(2), 4)
				switch rng.Intn(whim) {
				case 0: // true already, or it says something: all but one of its literals are false
					for i := range clause {
						if len(trail) > 0 && rng.Intn(3) > 0 {
							clause[i] = -trail[rng.Intn(len(trail))]
						}
					}
				case 1: // longer, and false if it can be
					for range 2 + rng.Intn(3) {
						if len(trail) > 0 {
							clause = append(clause, -trail[rng.Intn(len(trail))])
						}
					}
				}
				if len(clause) > 0 || rng.Intn(20) == 0 {
					some = append(some, clause)
				}
			}
			return some
		})
		count[o.Sat]++
		if !o.Sat && possible(vars, append(slices.Clone(c.Clauses), w.lemmas...), o.Failed) {
			t.Fatalf("A4: Solve(%v, %v): %v", c, assume, o)
		}
	}
	if count[true] < 100 || count[false] < 500 {
		t.Errorf("the test is one-sided: %v", count)
	}
}

// Conflicts enough that the search begins anew and forgets, with a theory that says most of it.
func TestTheoryOfPigeons(t *testing.T) {
	const holes = 6
	full := pigeons(holes)
	c := api.Cnf{Vars: full.Vars}
	var hidden [][]int
	for _, clause := range full.Clauses {
		if len(clause) > 2 {
			c.Clauses = append(c.Clauses, clause)
		} else {
			hidden = append(hidden, clause)
		}
	}
	for _, every := range []bool{false, true} {
		held := map[int]int{}
		var trail []int
		o, e := sat.Solve(c, nil, sat.Hook{
			Assert: func(l int) { held[l] = 1; trail = append(trail, l) },
			Undo: func(n int) {
				for range n {
					delete(held, trail[len(trail)-1])
					trail = trail[:len(trail)-1]
				}
			},
			Check: func(_ []int, full bool) [][]int {
				var out [][]int
				for _, clause := range hidden {
					if (full || every) && held[-clause[0]] > 0 && held[-clause[1]] > 0 {
						out = append(out, clause)
					}
				}
				return out
			},
		})
		if e != api.OK || o.Sat || len(o.Failed) > 0 {
			t.Fatalf("A7: pigeons: %v, %d", o.Sat, e)
		}
		learnt := map[string]int{}
		clauses := slices.Clone(c.Clauses)
		for _, s := range o.Steps {
			if s.Lemma == -1 {
				lookOverLearnt(t, s.Lits, learnt)
			}
			learnt[asSet(s.Lits)] = 1
			clauses = append(clauses, s.Lits)
		}
		if !plainFollows(clauses, nil) {
			t.Error("A4: pigeons: the steps do not lead there")
		}
	}
}

// The hook is asked of a long trail, but not so often that it takes forever.
func TestLongTrail(t *testing.T) {
	const vars = 100000
	asked := 0
	o, e := sat.Solve(api.Cnf{Vars: vars}, nil, sat.Hook{Check: func(trail []int, full bool) [][]int {
		asked++
		if full && asked < 50000 && slices.Contains(trail, -77) {
			return [][]int{{77}}
		}
		return nil
	}})
	if e != api.OK || !o.Sat || o.Lits[76] != 77 {
		t.Errorf("A7: %v, %d", o.Sat, e)
	}
}

// Each field may be nil by itself; what is left is called as ever.
func TestFieldsThatAreNil(t *testing.T) {
	c := api.Cnf{Vars: 4, Clauses: [][]int{{1, 2}, {-1, 3}}}
	hidden := [][]int{{1, 4}, {2, 4}, {-4, -2}}
	for mask := range 8 {
		w := newWatcher(t, c, func(trail []int, _ bool) [][]int { return falseOnes(hidden, trail) })
		h := w.hook()
		if mask&1 == 0 {
			h.Assert = nil
		}
		if mask&2 == 0 {
			h.Undo = nil
		}
		if mask&4 == 0 {
			h.Check = nil
		}
		if mask&3 != 3 && h.Check != nil { // it cannot know the trail but from Check
			h.Check = func(trail []int, _ bool) [][]int { return falseOnes(hidden, trail) }
			if h.Assert != nil {
				h.Assert = func(l int) {}
			}
		}
		if h.Undo != nil && h.Assert == nil {
			h.Undo = func(n int) {
				if n < 1 {
					t.Errorf("A6.2: Undo(%d)", n)
				}
			}
		}
		o, e := sat.Solve(c, []int{3}, h)
		if e != api.OK || !o.Sat {
			t.Fatalf("A3: fields %d: %v, %d", mask, o, e)
		}
		if h.Check != nil && len(falseOnes(hidden, o.Lits)) > 0 {
			t.Errorf("A7: fields %d: %v", mask, o)
		}
		if h.Check == nil && h.Assert != nil && h.Undo != nil && len(w.trail) != c.Vars {
			t.Errorf("A3: fields %d: the trail at the end is %v", mask, w.trail)
		}
	}
}

// The same questions have the same answers.
func TestAnswersHangOnNothingElse(t *testing.T) {
	for seed := range int64(100) {
		rng := rand.New(rand.NewSource(seed))
		vars := 5 + rng.Intn(20)
		c := api.Cnf{Vars: vars, Clauses: someClauses(rng, vars, 4*vars)}
		hidden := someClauses(rng, vars, vars)
		assume := someClause(rng, vars, 3)
		var first api.Outcome
		var calls []int
		for i := range 3 {
			var now []int
			o, _ := sat.Solve(c, assume, sat.Hook{Check: func(trail []int, _ bool) [][]int {
				now = append(append(now, trail...), 0)
				return falseOnes(hidden, trail)
			}})
			if i == 0 {
				first, calls = o, now
			}
			if o.Sat != first.Sat || !slices.Equal(o.Lits, first.Lits) || !slices.Equal(o.Failed, first.Failed) || len(o.Steps) != len(first.Steps) || !slices.Equal(now, calls) {
				t.Fatalf("A1: Solve(%v, %v): %v, then %v", c, assume, first, o)
			}
			for k, s := range o.Steps {
				if s.Lemma != first.Steps[k].Lemma || !slices.Equal(s.Lits, first.Steps[k].Lits) {
					t.Fatalf("A1: Solve(%v, %v): %v, then %v", c, assume, first, o)
				}
			}
		}
	}
}

// roomy is a list with spare room, and something in it.
func roomy(list []int) []int {
	return append(slices.Grow(slices.Clone(list), 2), 7777, 7777)[:len(list)]
}

func roomyAll(lists [][]int) [][]int {
	var out [][]int
	for _, list := range lists {
		out = append(out, roomy(list))
	}
	return out
}

// whole tells lists up to the ends of their spare room.
func whole(lists ...[]int) []int {
	var out []int
	for _, list := range lists {
		out = append(append(out, list[:cap(list)]...), 0)
	}
	return out
}

// What is handed in stays as it is, the lists that Check answers too, and what comes out is nobody else's.
func TestMemory(t *testing.T) {
	for seed := range int64(300) {
		rng := rand.New(rand.NewSource(seed))
		vars := 2 + rng.Intn(6)
		c := api.Cnf{Vars: vars, Clauses: roomyAll(someClauses(rng, vars, 3*vars)), Tops: roomy([]int{99})}
		assume := roomy(someClause(rng, vars, 3))
		hidden := roomyAll(someClauses(rng, vars, vars))
		before := whole(append(append(slices.Clone(c.Clauses), hidden...), c.Tops, assume)...)
		ask := func(spoil bool) api.Outcome {
			o, _ := sat.Solve(c, assume, sat.Hook{Check: func(trail []int, _ bool) [][]int {
				out := falseOnes(hidden, trail)
				for i := range trail[:cap(trail)] {
					trail[:cap(trail)][i] = -88
				}
				if spoil {
					return out
				}
				var again [][]int
				for _, clause := range out {
					again = append(again, slices.Clone(clause))
				}
				return again
			}})
			return o
		}
		want := ask(false)
		got := ask(true)
		if !slices.Equal(before, whole(append(append(slices.Clone(c.Clauses), hidden...), c.Tops, assume)...)) {
			t.Fatal("A1, P0.4: what is handed in is changed")
		}
		if got.Sat != want.Sat || !slices.Equal(got.Lits, want.Lits) || !slices.Equal(got.Failed, want.Failed) || len(got.Steps) != len(want.Steps) {
			t.Fatalf("A1: %v, then %v", want, got)
		}
		lists := [][]int{got.Lits, got.Failed}
		for _, s := range got.Steps {
			lists = append(lists, s.Lits)
		}
		for _, list := range lists {
			list = list[:cap(list)]
			if slices.Contains(list, -99) {
				t.Fatal("P0.4: two lists of an answer share memory")
			}
			for i := range list {
				list[i] = -99
			}
		}
		if !slices.Equal(before, whole(append(append(slices.Clone(c.Clauses), hidden...), c.Tops, assume)...)) {
			t.Fatal("A1, P0.4: an answer shares memory with what is handed in")
		}
	}
}

// A hook may use one list for all that it gives, over and over: nothing of it is kept.
func TestGivenListsAreNotKept(t *testing.T) {
	hidden := [][]int{{1, 2}, {1, -2}, {-1, 3}, {-1, -3}}
	room := make([][]int, 1)
	room[0] = make([]int, 2)
	var given [][]int
	o, e := sat.Solve(api.Cnf{Vars: 3}, nil, sat.Hook{Check: func(trail []int, _ bool) [][]int {
		copy(room[0], []int{0, 99})
		some := falseOnes(hidden, trail)
		if len(some) == 0 {
			given = append(given, slices.Clone(room[0]))
			return room
		}
		copy(room[0], some[0])
		given = append(given, slices.Clone(room[0]))
		return room
	}})
	copy(room[0], []int{0, 99})
	if e != api.OK || o.Sat {
		t.Fatalf("A7: %v, %d", o, e)
	}
	for _, s := range o.Steps {
		if s.Lemma >= 0 && !slices.Equal(s.Lits, given[s.Lemma]) {
			t.Errorf("A1, A4: the clause %d was %v, and is told as %v", s.Lemma, given[s.Lemma], s.Lits)
		}
	}
}

// TestNeeded: what the end does not come from is no step.
func TestNeeded(t *testing.T) {
	c := api.Cnf{Vars: 4, Clauses: [][]int{{1, 2}}}
	h := sat.Hook{Check: func(trail []int, full bool) [][]int { return [][]int{{3, 4}, {-1, 3}, {-1, -3}, {-2}} }}
	o, err := sat.Solve(c, nil, h)
	if err != api.OK || o.Sat || len(o.Failed) > 0 {
		t.Fatalf("A4: %v, %d", o, err)
	}
	for _, step := range o.Steps {
		if slices.Contains(step.Lits, 4) {
			t.Errorf("A4: the step %v plays no part", step)
		}
	}
	if e, at := rup.Check(c, o.Steps, nil); e != api.OK {
		t.Errorf("A4: step %d of %v does not stand", at, o.Steps)
	}
}
