package cnf_test

import (
	"math/rand"
	"slices"
	"strconv"
	"testing"

	"arbiter/api"
	"arbiter/cnf"
	"arbiter/prep"
)

// What follows takes nil and the empty list for the same.

func sameCnf(a, b api.Cnf) bool {
	return a.Vars == b.Vars && slices.Equal(a.Tops, b.Tops) && slices.EqualFunc(a.Clauses, b.Clauses, slices.Equal[[]int])
}

func cloneCnf(c api.Cnf) api.Cnf {
	out := api.Cnf{Vars: c.Vars, Tops: slices.Clone(c.Tops)}
	for _, clause := range c.Clauses {
		out.Clauses = append(out.Clauses, slices.Clone(clause))
	}
	return out
}

func f(op int, args ...int) api.Form { return api.Form{Op: op, Args: args} }

func atomForm(atom int) api.Form { return api.Form{Op: api.FormAtom, Atom: atom} }

// goal is a goal of so many atoms over one number, and forms of them.
func goal(atoms int, forms []api.Form, sides, roots []int) api.Goal {
	g := api.Goal{
		Nodes: []api.GNode{{Kind: api.NodeTrue, Fun: -1, Term: -1}, {Kind: api.NodeFalse, Fun: -1, Term: -1}, {Kind: api.NodeApp, Sort: api.SortReal}},
		Forms: forms, Sides: sides, Roots: roots,
	}
	for i := range atoms {
		form := api.Lin{M: []api.Mono{{V: 2, C: "1"}}, K: strconv.Itoa(i)}
		g.Atoms = append(g.Atoms, api.Atom{Kind: api.AtomCon, Con: api.Con{Op: api.ConLe, F: form}})
	}
	return g
}

// someGoal is a goal with forms by chance.
func someGoal(rng *rand.Rand) api.Goal {
	atoms := rng.Intn(5)
	var forms []api.Form
	for i := range rng.Intn(9) {
		pick := func(count int) []int {
			var list []int
			for range count {
				list = append(list, rng.Intn(i))
			}
			return list
		}
		switch op := 1 + rng.Intn(7); {
		case op == api.FormAtom && atoms > 0:
			forms = append(forms, atomForm(rng.Intn(atoms)))
		case op <= api.FormAtom || i == 0:
			forms = append(forms, f(api.FormTrue))
		default:
			count := []int{api.FormNot: 1, api.FormAnd: 2 + rng.Intn(3), api.FormOr: 2 + rng.Intn(3), api.FormIff: 2, api.FormIte: 3}[op]
			forms = append(forms, f(op, pick(count)...))
		}
	}
	list := func() []int {
		var out []int
		for range rng.Intn(4) {
			if len(forms) > 0 {
				out = append(out, rng.Intn(len(forms)))
			}
		}
		return out
	}
	return goal(atoms, forms, list(), list())
}

// someCnf is clauses by chance, over so few variables that much stands twice.
func someCnf(rng *rand.Rand) api.Cnf {
	c := api.Cnf{Vars: 1 + rng.Intn(4)}
	some := func() []int {
		var list []int
		for range rng.Intn(5) {
			list = append(list, (1+rng.Intn(c.Vars))*(1-2*rng.Intn(2)))
		}
		return list
	}
	for range rng.Intn(12) {
		c.Clauses = append(c.Clauses, some())
	}
	c.Tops = some()
	return c
}

// assignments goes through all lists of so many truths.
func assignments(count int) [][]bool {
	var all [][]bool
	for n := range 1 << count {
		var list []bool
		for i := range count {
			list = append(list, n>>i&1 == 1)
		}
		all = append(all, list)
	}
	return all
}

func litHolds(lit int, truths []bool) bool {
	if lit < 0 {
		return !truths[-lit-1]
	}
	return truths[lit-1]
}

func clauseHolds(clause []int, truths []bool) bool {
	return slices.ContainsFunc(clause, func(lit int) bool { return litHolds(lit, truths) })
}

func allHold(clauses [][]int, truths []bool) bool {
	return !slices.ContainsFunc(clauses, func(c []int) bool { return !clauseHolds(c, truths) })
}

func clauses(t *testing.T, g api.Goal) (api.Cnf, []int) {
	t.Helper()
	c, lits, e := cnf.Clauses(g)
	if e != api.OK || len(lits) != len(g.Forms) {
		t.Fatalf("F2: Clauses of %+v: %v, %d", g, lits, e)
	}
	if e := cnf.Check(c); e != api.OK {
		t.Fatalf("F2: what Clauses tells is none: %+v", c)
	}
	return c, lits
}

func tidy(t *testing.T, c api.Cnf) api.Cnf {
	t.Helper()
	out, e := cnf.Tidy(c)
	if e != api.OK {
		t.Fatalf("F5: Tidy of %+v: %d", c, e)
	}
	return out
}

func holds(t *testing.T, g api.Goal, atoms []bool) []bool {
	t.Helper()
	forms, e := prep.Forms(g, atoms)
	if e != api.OK {
		t.Fatalf("the test's goal is none: %d", e)
	}
	return forms
}
