package rup_test

import (
	"math/rand"
	"slices"
	"testing"

	"arbiter/api"
	"arbiter/rup"
)

// four is the chapter's example.
func four() api.Cnf {
	return api.Cnf{Vars: 3, Clauses: [][]int{{1, 2}, {-1, 2}, {-2, 3}, {1, -3}}, Tops: []int{99, 0}}
}

func step(lemma int, lits ...int) api.Step { return api.Step{Lemma: lemma, Lits: lits} }

func add(lits []int, hints ...int) api.Line { return api.Line{Lits: lits, Hints: hints} }

func gone(hints ...int) api.Line { return api.Line{Delete: true, Hints: hints} }

func areLiterals(lits []int, vars int) bool {
	return !slices.ContainsFunc(lits, func(l int) bool { return l == 0 || l < -vars || l > vars })
}

func isClauses(c api.Cnf) bool {
	return c.Vars >= 0 && c.Vars <= 1000000 && !slices.ContainsFunc(c.Clauses, func(l []int) bool { return !areLiterals(l, c.Vars) })
}

func negated(lits []int) []int {
	var out []int
	for _, l := range lits {
		out = append(out, -l)
	}
	return out
}

// plainUnit goes by the chapter's words: the set of literals grows as long as a clause puts one into it.
func plainUnit(clauses [][]int, lits []int) (map[int]int, bool) {
	set := map[int]int{}
	for _, l := range lits {
		set[l] = 1
	}
	for grown := true; grown; {
		grown = false
		for _, clause := range clauses {
			for _, l := range clause {
				put := set[l] == 0
				for _, other := range clause {
					put = put && (other == l || set[-other] == 1)
				}
				if put {
					set[l] = 1
					grown = true
				}
			}
		}
	}
	for l := range set {
		if set[l]+set[-l] == 2 {
			return nil, true
		}
	}
	return set, slices.ContainsFunc(clauses, func(clause []int) bool {
		return !slices.ContainsFunc(clause, func(l int) bool { return set[-l] == 0 })
	})
}

func plainFollows(clauses [][]int, clause []int) bool {
	_, clash := plainUnit(clauses, negated(clause))
	return clash
}

func plainCheck(c api.Cnf, steps []api.Step, clause []int) (api.Errno, int) {
	if !isClauses(c) {
		return api.ErrCnf, 0
	}
	clauses := slices.Clone(c.Clauses)
	for i, s := range steps {
		if !areLiterals(s.Lits, c.Vars) || s.Lemma < -1 || s.Lemma == -1 && !plainFollows(clauses, s.Lits) {
			return api.ErrStep, i
		}
		clauses = append(clauses, s.Lits)
	}
	if !areLiterals(clause, c.Vars) || !plainFollows(clauses, clause) {
		return api.ErrStep, len(steps)
	}
	return api.OK, 0
}

// plainLine tells by the chapter's words whether a line that adds follows from clauses by their numbers.
func plainLine(clauses map[int][]int, vars int, line api.Line) bool {
	if !areLiterals(line.Lits, vars) {
		return false
	}
	set := map[int]int{}
	for _, l := range line.Lits {
		set[-l] = 1
	}
	for _, l := range line.Lits {
		if set[l] == 1 {
			return len(line.Hints) == 0
		}
	}
	for i, hint := range line.Hints {
		clause, ok := clauses[hint]
		if !ok {
			return false
		}
		left := map[int]int{}
		for _, l := range clause {
			if set[-l] == 0 {
				left[l] = 1
			}
		}
		switch len(left) {
		case 0:
			return i == len(line.Hints)-1
		case 1:
			for l := range left {
				set[l] = 1
			}
		default:
			return false
		}
	}
	return false
}

func plainFollow(c api.Cnf, lines []api.Line) (api.Errno, int) {
	if !isClauses(c) {
		return api.ErrCnf, 0
	}
	clauses := map[int][]int{}
	last := 0
	for _, clause := range c.Clauses {
		last++
		clauses[last] = clause
	}
	for i, line := range lines {
		if !line.Delete {
			if !plainLine(clauses, c.Vars, line) {
				return api.ErrStep, i
			}
			last++
			clauses[last] = line.Lits
			continue
		}
		if len(line.Lits) > 0 {
			return api.ErrStep, i
		}
		for _, n := range line.Hints {
			if _, ok := clauses[n]; !ok {
				return api.ErrStep, i
			}
			delete(clauses, n)
		}
	}
	return api.OK, 0
}

func someLit(rng *rand.Rand, vars int) int { return (1 + rng.Intn(vars)) * (1 - 2*rng.Intn(2)) }

func someClause(rng *rand.Rand, vars, most int) []int {
	var lits []int
	for range rng.Intn(most + 1) {
		lits = append(lits, someLit(rng, vars))
	}
	return lits
}

// someCnf is clauses by chance: with doubled literals, opposites, and now and then an empty one.
func someCnf(rng *rand.Rand) api.Cnf {
	c := api.Cnf{Vars: 1 + rng.Intn(7), Tops: []int{0, 1234567}}
	for range rng.Intn(16) {
		clause := someClause(rng, c.Vars, 4)
		if len(clause) < 2 && rng.Intn(5) > 0 {
			clause = append(clause, someLit(rng, c.Vars), someLit(rng, c.Vars))
		}
		c.Clauses = append(c.Clauses, clause)
	}
	return c
}

// someSteps is steps that stand, lemmas among them if they may be, and a clause that they lead to.
func someSteps(rng *rand.Rand, c api.Cnf, lemmas bool) ([]api.Step, []int) {
	clauses := slices.Clone(c.Clauses)
	var steps []api.Step
	for range rng.Intn(40) {
		lits := someClause(rng, c.Vars, 4)
		if lemmas && rng.Intn(12) == 0 {
			steps = append(steps, step(rng.Intn(5), lits...))
			clauses = append(clauses, lits)
		} else if plainFollows(clauses, lits) {
			steps = append(steps, step(-1, lits...))
			clauses = append(clauses, lits)
		}
	}
	for range 20 {
		if lits := someClause(rng, c.Vars, 2); plainFollows(clauses, lits) {
			return steps, lits
		}
	}
	return steps, []int{1, -1}
}

// drop is a list without one place.
func drop[T any](list []T, at int) []T {
	return append(slices.Clone(list[:at]), list[at+1:]...)
}

func pick[T any](list []T, places []int) []T {
	var out []T
	for _, i := range places {
		out = append(out, list[i])
	}
	return out
}

func sameLines(a, b []api.Line) bool {
	return slices.EqualFunc(a, b, func(x, y api.Line) bool {
		return x.Delete == y.Delete && slices.Equal(x.Lits, y.Lits) && slices.Equal(x.Hints, y.Hints)
	})
}

// pigeons is one pigeon more than holes.
func pigeons(holes int) api.Cnf {
	c := api.Cnf{Vars: (holes + 1) * holes}
	for p := range holes + 1 {
		var some []int
		for h := range holes {
			some = append(some, p*holes+h+1)
			for q := range p {
				c.Clauses = append(c.Clauses, []int{-(p*holes + h + 1), -(q*holes + h + 1)})
			}
		}
		c.Clauses = append(c.Clauses, some)
	}
	return c
}

// lookOverTrim looks that what Trim tells is enough, and bare.
func lookOverTrim(t *testing.T, c api.Cnf, steps []api.Step, clause []int, check func(api.Cnf, []api.Step, []int) (api.Errno, int)) ([]int, []int) {
	t.Helper()
	core, stay, e := rup.Trim(c, steps, clause)
	if e != api.OK {
		t.Fatalf("U4: Trim(%v, %v, %v): %d", c, steps, clause, e)
	}
	for _, x := range []struct {
		list  []int
		count int
	}{{core, len(c.Clauses)}, {stay, len(steps)}} {
		last := -1
		for _, n := range x.list {
			if n <= last || n >= x.count {
				t.Fatalf("U4: Trim(%v, %v, %v): %v, %v", c, steps, clause, core, stay)
			}
			last = n
		}
	}
	clauses, few := pick(c.Clauses, core), pick(steps, stay)
	if e, at := check(api.Cnf{Vars: c.Vars, Clauses: clauses}, few, clause); e != api.OK {
		t.Fatalf("U4: Trim(%v, %v, %v): with %v and %v the step %d does not stand", c, steps, clause, core, stay, at)
	}
	for i := range core {
		if e, _ := check(api.Cnf{Vars: c.Vars, Clauses: drop(clauses, i)}, few, clause); e == api.OK {
			t.Fatalf("U4: Trim(%v, %v, %v): %v, %v: the clause %d can be left out", c, steps, clause, core, stay, core[i])
		}
	}
	for i := range stay {
		if e, _ := check(api.Cnf{Vars: c.Vars, Clauses: clauses}, drop(few, i), clause); e == api.OK {
			t.Fatalf("U4: Trim(%v, %v, %v): %v, %v: the step %d can be left out", c, steps, clause, core, stay, stay[i])
		}
	}
	return core, stay
}

// lookOverHint looks that lines are those of the steps and follow, and that no hint can be left out.
func lookOverHint(t *testing.T, c api.Cnf, steps []api.Step, clause []int) []api.Line {
	t.Helper()
	lines, e := rup.Hint(c, steps, clause)
	if e != api.OK || len(lines) != len(steps)+1 {
		t.Fatalf("U5: Hint(%v, %v, %v): %v, %d", c, steps, clause, lines, e)
	}
	for i, line := range lines {
		want := clause
		if i < len(steps) {
			want = steps[i].Lits
		}
		if line.Delete || !slices.Equal(line.Lits, want) {
			t.Fatalf("U5: Hint(%v, %v, %v): line %d is %v", c, steps, clause, i, line)
		}
	}
	if e, at := plainFollow(c, lines); e != api.OK {
		t.Fatalf("U5: Hint(%v, %v, %v): line %d, %v, does not follow", c, steps, clause, at, lines[at])
	}
	for i, line := range lines {
		clauses := map[int][]int{}
		for k, l := range c.Clauses {
			clauses[k+1] = l
		}
		for k, l := range lines[:i] {
			clauses[len(c.Clauses)+k+1] = l.Lits
		}
		for k := range line.Hints {
			if plainLine(clauses, c.Vars, add(line.Lits, drop(line.Hints, k)...)) {
				t.Fatalf("U5: Hint(%v, %v, %v): of line %d, %v, the hint %d can be left out", c, steps, clause, i, line, line.Hints[k])
			}
		}
	}
	return lines
}
