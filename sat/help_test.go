package sat_test

import (
	"math/rand"
	"slices"
	"testing"

	"arbiter/api"
	"arbiter/sat"
)

func isLiteral(lit, vars int) bool { return lit != 0 && lit >= -vars && lit <= vars }

func areLiterals(lits []int, vars int) bool {
	return !slices.ContainsFunc(lits, func(l int) bool { return !isLiteral(l, vars) })
}

// holdsUnder tells whether a clause is true where these literals are.
func holdsUnder(clause, lits []int) bool {
	return slices.ContainsFunc(clause, func(l int) bool { return slices.Contains(lits, l) })
}

func isFalseUnder(clause, lits []int) bool {
	return !slices.ContainsFunc(clause, func(l int) bool { return !slices.Contains(lits, -l) })
}

func without(list []int, x int) []int {
	return slices.DeleteFunc(slices.Clone(list), func(y int) bool { return y == x })
}

// plainFollows tells by chapter 12's words whether a clause follows from clauses by unit propagation: the set grows until it stays.
func plainFollows(clauses [][]int, clause []int) bool {
	in := map[int]int{}
	for _, l := range clause {
		in[-l] = 1
	}
	for grown := true; grown; {
		grown = false
		for _, c := range clauses {
			open, free := 0, 0 // unlike literals whose opposites are not in the set
			for _, l := range c {
				if in[-l] == 0 && l != free {
					free = l
					open++
				}
			}
			if open == 0 {
				return true
			}
			if open == 1 && in[free] == 0 {
				in[free] = 1
				grown = true
			}
		}
		for l := range in {
			if in[l]+in[-l] == 2 {
				return true
			}
		}
	}
	return false
}

func negated(lits []int) []int {
	var out []int
	for _, l := range lits {
		out = append(out, -l)
	}
	return out
}

func asSet(lits []int) string {
	sorted := slices.Clone(lits)
	slices.Sort(sorted)
	text := []byte{}
	for _, l := range slices.Compact(sorted) {
		for range 8 {
			text = append(text, byte(l))
			l >>= 8
		}
	}
	return string(text)
}

// watcher is a hook that looks over what it is told (A6), and gives what a function says.
type watcher struct {
	t      *testing.T
	c      api.Cnf
	trail  []int
	given  [][]int // all that was given, let go or not
	lemmas [][]int
	checks int
	last   bool // the last call of Check was of a full trail
	done   bool // no function may be called any more
	give   func(trail []int, full bool) [][]int
}

func newWatcher(t *testing.T, c api.Cnf, give func(trail []int, full bool) [][]int) *watcher {
	return &watcher{t: t, c: c, give: give}
}

func (w *watcher) hook() sat.Hook {
	return sat.Hook{Assert: w.assert, Undo: w.undo, Check: w.check}
}

func (w *watcher) alive() {
	w.t.Helper()
	if w.done {
		w.t.Fatal("A6.5: a function is called behind the last Check")
	}
}

func (w *watcher) assert(l int) {
	w.alive()
	if !isLiteral(l, w.c.Vars) || slices.Contains(w.trail, l) || slices.Contains(w.trail, -l) {
		w.t.Fatalf("A6.1: Assert(%d) on %v", l, w.trail)
	}
	w.trail = append(w.trail, l)
}

func (w *watcher) undo(n int) {
	w.alive()
	if n < 1 || n > len(w.trail) {
		w.t.Fatalf("A6.2: Undo(%d) on %v", n, w.trail)
	}
	w.trail = w.trail[:len(w.trail)-n]
}

// through looks that unit propagation is through.
func (w *watcher) through(clause []int) {
	w.t.Helper()
	if holdsUnder(clause, w.trail) {
		return
	}
	var free []int
	for _, l := range clause {
		if !slices.Contains(w.trail, -l) && !slices.Contains(free, l) {
			free = append(free, l)
		}
	}
	if len(free) < 2 {
		w.t.Fatalf("A6.4: Check at %v, where unit propagation of %v is not through", w.trail, clause)
	}
}

func (w *watcher) check(trail []int, full bool) [][]int {
	w.alive()
	w.checks++
	w.last = full
	if !slices.Equal(trail, w.trail) || full != (len(trail) == w.c.Vars) {
		w.t.Fatalf("A6.3: Check(%v, %v), where the trail is %v of %d", trail, full, w.trail, w.c.Vars)
	}
	for _, clause := range w.c.Clauses {
		w.through(clause)
	}
	for _, lemma := range w.lemmas {
		w.through(lemma)
	}
	objects := false
	var out [][]int
	for _, clause := range w.give(slices.Clone(trail), full) {
		w.given = append(w.given, slices.Clone(clause))
		if areLiterals(clause, w.c.Vars) {
			w.lemmas = append(w.lemmas, slices.Clone(clause))
			objects = objects || isFalseUnder(clause, trail)
		}
		out = append(out, clause)
	}
	w.done = full && !objects
	for i := range trail[:cap(trail)] { // it is the hook's own
		trail[:cap(trail)][i] = 12345
	}
	return out
}

// solve solves, and looks over all that chapter 11 says of an answer.
func solve(t *testing.T, c api.Cnf, assume []int, give func(trail []int, full bool) [][]int) (api.Outcome, *watcher) {
	t.Helper()
	w := newWatcher(t, c, give)
	h := sat.Hook{}
	if give != nil {
		h = w.hook()
	}
	o, e := sat.Solve(c, assume, h)
	if e != api.OK {
		t.Fatalf("A2: Solve(%v, %v): %d", c, assume, e)
	}
	if o.Sat {
		lookOverSat(t, c, assume, o, w)
		if give != nil && (!w.last || !w.done || len(w.trail) != c.Vars) {
			t.Fatalf("A3: Solve(%v, %v): the last Check was full: %v, without objection: %v, of %v", c, assume, w.last, w.done, w.trail)
		}
	} else {
		if w.done {
			t.Fatalf("A6.5: Solve(%v, %v): not Sat behind a full Check without objection", c, assume)
		}
		lookOverNot(t, c, assume, o, w)
	}
	return o, w
}

func lookOverSat(t *testing.T, c api.Cnf, assume []int, o api.Outcome, w *watcher) {
	t.Helper()
	if len(o.Lits) != c.Vars || len(o.Steps) != 0 || len(o.Failed) != 0 {
		t.Fatalf("A3: Solve(%v, %v): %v", c, assume, o)
	}
	for i, l := range o.Lits {
		if l != i+1 && l != -i-1 {
			t.Fatalf("A3: Solve(%v, %v): Lits %v", c, assume, o.Lits)
		}
	}
	for _, clauses := range [][][]int{c.Clauses, w.lemmas} {
		for _, clause := range clauses {
			if !holdsUnder(clause, o.Lits) {
				t.Fatalf("A3: Solve(%v, %v): %v is false under %v", c, assume, clause, o.Lits)
			}
		}
	}
	for _, l := range assume {
		if !slices.Contains(o.Lits, l) {
			t.Fatalf("A3: Solve(%v, %v): the assumption %d is false under %v", c, assume, l, o.Lits)
		}
	}
}

func lookOverNot(t *testing.T, c api.Cnf, assume []int, o api.Outcome, w *watcher) {
	t.Helper()
	if len(o.Lits) != 0 {
		t.Fatalf("A4: Solve(%v, %v): Lits %v", c, assume, o.Lits)
	}
	at := -1
	for _, l := range o.Failed {
		next := slices.Index(assume, l)
		if next <= at {
			t.Fatalf("A4: Solve(%v, %v): Failed %v", c, assume, o.Failed)
		}
		at = next
	}
	clauses := slices.Clone(c.Clauses)
	learnt := map[string]int{}
	for _, clause := range clauses {
		learnt[asSet(clause)] = 1
	}
	for i, s := range o.Steps {
		switch {
		case !areLiterals(s.Lits, c.Vars):
			t.Fatalf("A4: step %d of %v", i, o.Steps)
		case s.Lemma >= 0 && (s.Lemma >= len(w.given) || !slices.Equal(s.Lits, w.given[s.Lemma])):
			t.Fatalf("A4: step %d, %v, is not the clause of that number of %v", i, s, w.given)
		case s.Lemma < -1, s.Lemma == -1 && !plainFollows(clauses, s.Lits):
			t.Fatalf("A4: Solve(%v, %v): step %d of %v does not follow", c, assume, i, o.Steps)
		}
		if s.Lemma == -1 {
			lookOverLearnt(t, s.Lits, learnt)
		}
		learnt[asSet(s.Lits)] = 1
		clauses = append(clauses, s.Lits)
	}
	if !plainFollows(clauses, negated(o.Failed)) {
		t.Fatalf("A4: Solve(%v, %v): %v does not lead to the opposites of %v", c, assume, o.Steps, o.Failed)
	}
}

func lookOverLearnt(t *testing.T, lits []int, learnt map[string]int) {
	t.Helper()
	for i, l := range lits {
		if slices.Contains(lits[:i], l) || slices.Contains(lits[:i], -l) {
			t.Fatalf("A5: %v", lits)
		}
	}
	if learnt[asSet(lits)] > 0 {
		t.Fatalf("A5: %v is learnt, and it was there already", lits)
	}
}

// truths tells all assignments of so many variables as lists of literals.
func truths(vars int) [][]int {
	var all [][]int
	for n := range 1 << vars {
		var lits []int
		for i := range vars {
			lits = append(lits, (i+1)*(2*(n>>i&1)-1))
		}
		all = append(all, lits)
	}
	return all
}

// possible tells by trying whether clauses and assumptions can be true together.
func possible(vars int, clauses [][]int, assume []int) bool {
	return slices.ContainsFunc(truths(vars), func(lits []int) bool {
		for _, clause := range clauses {
			if !holdsUnder(clause, lits) {
				return false
			}
		}
		return !slices.ContainsFunc(assume, func(l int) bool { return !slices.Contains(lits, l) })
	})
}

func someLit(rng *rand.Rand, vars int) int { return (1 + rng.Intn(vars)) * (1 - 2*rng.Intn(2)) }

func someClause(rng *rand.Rand, vars, most int) []int {
	var lits []int
	for range rng.Intn(most + 1) {
		lits = append(lits, someLit(rng, vars))
	}
	return lits
}

// someClauses is clauses by chance; few of them are short.
func someClauses(rng *rand.Rand, vars, count int) [][]int {
	var clauses [][]int
	for range count {
		clause := someClause(rng, vars, 5)
		if len(clause) < 2 && rng.Intn(6) > 0 {
			clause = append(clause, someLit(rng, vars), someLit(rng, vars))
		}
		clauses = append(clauses, clause)
	}
	return clauses
}

// pigeons is clauses that one pigeon more than holes cannot make true.
func pigeons(holes int) api.Cnf {
	c := api.Cnf{Vars: (holes + 1) * holes}
	for p := range holes + 1 {
		var some []int
		for h := range holes {
			some = append(some, p*holes+h+1)
			for q := range p {
				c.Clauses = append(c.Clauses, []int{-(p*holes + h + 1), -(q*holes + h + 1)})
			}
		}
		c.Clauses = append(c.Clauses, some)
	}
	return c
}
