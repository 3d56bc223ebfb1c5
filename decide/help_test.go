package decide_test

import (
	"math/rand"
	"slices"
	"testing"

	"arbiter/api"
	"arbiter/cnf"
	"arbiter/decide"
	"arbiter/lin"
	"arbiter/prep"
	"arbiter/proof"
	"arbiter/script"
	"arbiter/term"
)

// bankOf tells the bank of a script and the terms of its assertions.
func bankOf(t testing.TB, text string) (api.Bank, []int) {
	t.Helper()
	s, err, at := script.Parse(text)
	if err != api.OK {
		t.Fatalf("%s: %d at %d", text, err, at)
	}
	var roots []int
	for _, c := range s.Cmds {
		if c.Kind == api.CmdAssert {
			roots = append(roots, c.Terms...)
		}
	}
	return s.Bank, roots
}

// apart tells by the chapter's words what keeps values of a goal's nodes from going together, or nothing.
func apart(g api.Goal, values []api.Value) string {
	if _, err := prep.Atoms(g, values); err != api.OK {
		return "the atoms do not take them"
	}
	at := make([]string, len(values))
	for i, v := range values {
		at[i] = "0"
		if v.Sort == api.SortReal {
			at[i] = v.R
		}
	}
	for i, n := range g.Nodes {
		if n.Kind != api.NodeLin {
			continue
		}
		if v, _ := lin.Value(n.Lin, at); v != values[i].R {
			return "a form is not worth what it says"
		}
	}
	for i, n := range g.Nodes {
		for j, m := range g.Nodes[:i] {
			if n.Kind == api.NodeApp && m.Kind == api.NodeApp && n.Fun == m.Fun && values[i] != values[j] && slices.EqualFunc(n.Args, m.Args, func(x, y int) bool { return values[x] == values[y] }) {
				return "a function is worth two things"
			}
		}
	}
	return ""
}

// decided tells whether the roots of a goal can be true together, once the evidence has been looked over.
func decided(t *testing.T, g api.Goal) api.Verdict {
	t.Helper()
	v, err := decide.Goal(g)
	if err != api.OK {
		t.Fatalf("P17.1: Goal(%v): %d", g, err)
	}
	if !v.Sat {
		if err, at := proof.Check(g, v.Proof); err != api.OK || len(v.Values) > 0 || len(v.Lits) > 0 {
			t.Fatalf("P17.1: Goal(%v) = %v: the proof: %d, %d", g, v, err, at)
		}
		return v
	}
	if fault := apart(g, v.Values); fault != "" {
		t.Fatalf("P17.1: Goal(%v) = %v: %s", g, v, fault)
	}
	atoms, _ := prep.Atoms(g, v.Values)
	lits, _ := cnf.Extend(g, atoms)
	forms, _ := prep.Forms(g, atoms)
	for _, f := range slices.Concat(g.Sides, g.Roots) {
		if !forms[f] {
			t.Fatalf("P17.1: Goal(%v) = %v: the form %d is false", g, v, f)
		}
	}
	if !slices.Equal(lits, v.Lits) || len(v.Proof.Lemmas)+len(v.Proof.Steps)+len(v.Proof.Failed) > 0 {
		t.Fatalf("P17.1: Goal(%v) = %v: the literals are %v", g, v, lits)
	}
	return v
}

// maker makes terms by chance.
type maker struct {
	rng  *rand.Rand
	bank *term.Bank
}

// newMaker has constants of all sorts, and functions f: U to U, g: U and Real to Real, h: Bool to U, q: Real and Bool to Bool.
func newMaker(seed int64) *maker {
	m := &maker{rand.New(rand.NewSource(seed)), term.New()}
	u := m.bank.Sort("U")
	for _, f := range [][]int{{u, u}, {u, 1, 1}, {0, u}, {1, 0, 0}, {u}, {u}, {u}, {1}, {1}, {1}, {0}, {0}} {
		m.bank.Fun("f", f[:len(f)-1], f[len(f)-1])
	}
	return m
}

func (m *maker) op(op int, args ...int) int {
	t, err := m.bank.Op(op, args)
	if err != api.OK {
		panic("a term that cannot be made")
	}
	return t
}

// apply takes a function of that sort; at depth 0 a constant.
func (m *maker) apply(sort, depth int) int {
	funs := m.bank.Export().Funs
	for {
		f := m.rng.Intn(len(funs))
		if funs[f].Out != sort || depth == 0 && len(funs[f].Args) > 0 {
			continue
		}
		var args []int
		for _, s := range funs[f].Args {
			args = append(args, m.term(s, depth-1))
		}
		t, _ := m.bank.App(f, args)
		return t
	}
}

func (m *maker) number() int {
	t, _ := m.bank.Num([]string{"0", "1", "-1", "2", "1/2", "3"}[m.rng.Intn(6)])
	return t
}

func (m *maker) term(sort, depth int) int {
	some := func(s int) int { return m.term(s, depth-1) }
	if depth <= 0 || m.rng.Intn(3) == 0 {
		if sort == api.SortReal && m.rng.Intn(4) == 0 {
			return m.number()
		}
		return m.apply(sort, max(depth, 0))
	}
	if m.rng.Intn(5) == 0 {
		return m.op(api.OpIte, some(0), some(sort), some(sort))
	}
	switch sort {
	case api.SortReal:
		switch m.rng.Intn(3) {
		case 0:
			return m.op(api.OpMul, m.number(), some(1))
		case 1:
			return m.op(api.OpSub, some(1), some(1))
		}
		return m.op(api.OpAdd, some(1), some(1), m.number())
	case api.SortBool:
		return m.truth(some)
	}
	return m.apply(sort, depth)
}

func (m *maker) truth(some func(sort int) int) int {
	switch m.rng.Intn(8) {
	case 0:
		return m.op(api.OpNot, some(0))
	case 1:
		return m.op([]int{api.OpAnd, api.OpOr, api.OpImplies, api.OpXor}[m.rng.Intn(4)], some(0), some(0), some(0))
	case 2, 3:
		return m.op(api.OpLe+m.rng.Intn(4), some(1), some(1))
	case 4:
		return m.op([]int{api.OpTrue, api.OpFalse}[m.rng.Intn(2)])
	}
	sort := m.rng.Intn(3)
	return m.op([]int{api.OpEq, api.OpEq, api.OpDistinct}[m.rng.Intn(3)], some(sort), some(sort), some(sort))
}

// roots makes terms of sort Bool.
func (m *maker) roots(count, depth int) (api.Bank, []int) {
	var list []int
	for range count {
		list = append(list, m.term(api.SortBool, depth))
	}
	return m.bank.Export(), list
}
