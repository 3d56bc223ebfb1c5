package prep_test

import (
	"slices"
	"testing"

	"arbiter/api"
	"arbiter/prep"
)

// examples is the bank of the chapter's examples.
func examples(t *testing.T) api.Bank {
	m := newMaker(t, "U")
	f, a, x, y, g := m.fun("f", 2, 2), m.fun("a", 2), m.fun("x", 1), m.fun("y", 1), m.fun("g", 2, 1, 0)
	m.app(a)                       // 0
	m.app(f, 0)                    // 1
	m.op(api.OpEq, 0, 1)           // 2
	m.app(x)                       // 3
	m.app(y)                       // 4
	m.op(api.OpLt, 3, 4)           // 5
	m.op(api.OpIte, 5, 3, 4)       // 6
	m.num("1")                     // 7
	m.op(api.OpEq, 6, 7)           // 8
	m.op(api.OpAdd, 3, 7)          // 9
	m.app(g, 9, 5)                 // 10
	m.op(api.OpDistinct, 0, 1, 10) // 11
	if m.op(api.OpNot, 2) != 12 {
		t.Fatal("the chapter's bank is another")
	}
	return m.Export()
}

// check holds the goal of roots against what is wanted.
func check(t *testing.T, what string, b api.Bank, want api.Goal, roots ...int) {
	t.Helper()
	if got := goalOf(t, b, roots...); !sameGoal(got, want) {
		t.Errorf("%s: Goal(%v)\n is   %+v\n want %+v", what, roots, got, want)
	}
}

func TestExamples(t *testing.T) {
	b := examples(t)
	check(t, "R3 to R8", b, api.Goal{
		Nodes: nodes(app(1, 2, 0), app(0, 2, 1, 2)),
		Atoms: []api.Atom{{Kind: api.AtomEq, L: 2, R: 3}},
		Forms: []api.Form{atomForm(0), f(api.FormNot, 0)},
		Roots: []int{1},
	}, 12)
	check(t, "R3 to R8", b, api.Goal{
		Nodes: nodes(app(2, 1, 3), app(3, 1, 4), pick(1, 6)),
		Atoms: []api.Atom{
			atMost(form("0", api.Mono{V: 2, C: "-1"}, api.Mono{V: 3, C: "1"})),
			atMost(form("-1", api.Mono{V: 4, C: "1"})),
			atMost(form("1", api.Mono{V: 4, C: "-1"})),
			atMost(form("0", api.Mono{V: 2, C: "1"}, api.Mono{V: 4, C: "-1"})),
			atMost(form("0", api.Mono{V: 2, C: "-1"}, api.Mono{V: 4, C: "1"})),
			atMost(form("0", api.Mono{V: 3, C: "1"}, api.Mono{V: 4, C: "-1"})),
			atMost(form("0", api.Mono{V: 3, C: "-1"}, api.Mono{V: 4, C: "1"})),
		},
		Forms: []api.Form{
			atomForm(0), f(api.FormNot, 0), atomForm(1), atomForm(2), f(api.FormAnd, 2, 3),
			f(api.FormNot, 1), atomForm(3), atomForm(4), f(api.FormAnd, 6, 7), f(api.FormOr, 5, 8),
			atomForm(5), atomForm(6), f(api.FormAnd, 10, 11), f(api.FormOr, 1, 12),
		},
		Sides: []int{9, 13},
		Roots: []int{4},
	}, 8)
	sum := api.GNode{Kind: api.NodeLin, Sort: 1, Fun: -1, Lin: form("1", api.Mono{V: 4, C: "1"}), Term: 9}
	check(t, "R3 to R8", b, api.Goal{
		Nodes: nodes(app(1, 2, 0), app(0, 2, 1, 2), app(2, 1, 3), app(3, 1, 4), pick(0, 5), sum, app(4, 2, 10, 7, 6)),
		Atoms: []api.Atom{
			atMost(form("0", api.Mono{V: 4, C: "-1"}, api.Mono{V: 5, C: "1"})),
			{Kind: api.AtomEq, L: 2, R: 3}, {Kind: api.AtomEq, L: 2, R: 8}, {Kind: api.AtomEq, L: 3, R: 8},
			{Kind: api.AtomTrue, L: 6},
		},
		Forms: []api.Form{
			atomForm(0), f(api.FormNot, 0),
			atomForm(1), f(api.FormNot, 2), atomForm(2), f(api.FormNot, 4), atomForm(3), f(api.FormNot, 6), f(api.FormAnd, 3, 5, 7),
			atomForm(4), f(api.FormIff, 9, 1),
		},
		Sides: []int{10},
		Roots: []int{8},
	}, 11)
	check(t, "R2", b, api.Goal{Nodes: nodes()})
}

// R2: each error, and which one comes where several apply.
func TestGoalErrors(t *testing.T) {
	b := examples(t)
	spoilt := cloneBank(b)
	spoilt.Terms[7].Num = "2/2"
	for _, c := range []struct {
		bank  api.Bank
		roots []int
		want  api.Errno
	}{
		{b, []int{0}, api.ErrRoot},
		{b, []int{13}, api.ErrIndex},
		{b, []int{-1}, api.ErrIndex},
		{b, []int{-1 << 63}, api.ErrIndex},
		{b, []int{1<<63 - 1}, api.ErrIndex},
		{b, []int{0, 13}, api.ErrIndex},
		{b, []int{13, 0}, api.ErrIndex},
		{b, []int{12, 12, 9}, api.ErrRoot},
		{spoilt, []int{13}, api.ErrText},
		{spoilt, []int{0}, api.ErrText},
		{spoilt, nil, api.ErrText},
		{api.Bank{Funs: []api.Fun{{Out: 2}}}, []int{0}, api.ErrIndex},
		{api.Bank{Terms: []api.Term{{}}}, []int{0}, api.ErrOp},
		{api.Bank{Terms: []api.Term{{Op: api.OpTrue, Sort: 1}}}, []int{0}, api.ErrSort},
		{api.Bank{}, []int{0}, api.ErrIndex},
	} {
		g, e := prep.Goal(c.bank, c.roots)
		if e != c.want || !sameGoal(g, api.Goal{}) {
			t.Errorf("R2: Goal(%v): %d, %+v, want %d", c.roots, e, g, c.want)
		}
	}
}

// R3: which terms have nodes, of which kind.
func TestNodes(t *testing.T) {
	m := newMaker(t, "U")
	h, k := m.fun("h", 0, 0, 0, 0, 0), m.fun("k", 1, 1, 1, 1, 1)
	yes, no := m.op(api.OpTrue), m.op(api.OpFalse) // 0, 1
	p, x := m.constant(0), m.constant(1)           // 2, 3
	m.constant(0)                                  // 4: it counts nowhere
	not := m.op(api.OpNot, p)                      // 5
	alone := m.op(api.OpAnd, not, yes)             // 6: no argument of a function
	choice := m.op(api.OpIte, p, not, no)          // 7: of sort Bool
	seven := m.num("7")                            // 8
	double := m.op(api.OpMul, x, seven)            // 9
	other := m.op(api.OpIte, alone, double, seven) // 10
	zero := m.op(api.OpSub, x, x)                  // 11
	at := m.app(h, yes, no, p, choice)             // 12
	real := m.app(k, seven, double, other, zero)   // 13
	equal := m.op(api.OpEq, real, x)               // 14
	linear := func(term int, k string, monos ...api.Mono) api.GNode {
		return api.GNode{Kind: api.NodeLin, Sort: 1, Fun: -1, Lin: form(k, monos...), Term: term}
	}
	got := m.goal(at, equal).Nodes
	want := nodes(
		app(2, 0, p), app(3, 1, x),
		pick(0, choice),
		linear(seven, "7"), linear(double, "0", api.Mono{V: 3, C: "7"}),
		pick(1, other),
		linear(zero, "0"),
		app(h, 0, at, 0, 1, 2, 4), app(k, 1, real, 5, 6, 7, 8))
	if !slices.EqualFunc(got, want, sameNode) {
		t.Errorf("R3: %+v, want %+v", got, want)
	}
	// An argument of a function in a term that does not count is none.
	if got := m.goal(alone); len(got.Nodes) != 3 || len(got.Sides) != 0 {
		t.Errorf("R3: %+v", got)
	}
}

// R4, R5: constraints are tidy, and those that say the same are one atom.
func TestConstraints(t *testing.T) {
	m := newMaker(t)
	x, y := m.constant(1), m.constant(1) // nodes 2, 3
	two, three := m.num("2"), m.num("-3")
	minus := m.op(api.OpSub, x)
	left := m.op(api.OpMul, two, x)
	right := m.op(api.OpDiv, m.op(api.OpAdd, y, two), three)
	upper := atMost(form("1/3", api.Mono{V: 2, C: "1"}, api.Mono{V: 3, C: "1/6"}))
	lower := atMost(form("-1/3", api.Mono{V: 2, C: "-1"}, api.Mono{V: 3, C: "-1/6"}))
	for _, c := range []struct {
		op   int
		atom api.Atom
		not  bool
	}{
		{api.OpLe, upper, false}, {api.OpLt, lower, true}, {api.OpGe, lower, false}, {api.OpGt, upper, true},
	} {
		g := m.goal(m.op(c.op, left, right))
		if len(g.Atoms) != 1 || !sameAtom(g.Atoms[0], c.atom) {
			t.Errorf("R5: operator %d: %+v, want %+v", c.op, g.Atoms, c.atom)
		}
		if want := len(g.Forms) == 2; want != c.not || c.not && !sameForm(g.Forms[1], f(api.FormNot, 0)) {
			t.Errorf("R5: operator %d: %+v", c.op, g.Forms)
		}
	}
	// -x < 0 and x <= 0 are a statement and its opposite.
	zero := m.num("0")
	g := m.goal(m.op(api.OpLt, minus, zero), m.op(api.OpLe, m.op(api.OpMul, two, x), zero), m.op(api.OpGt, x, zero))
	if len(g.Atoms) != 1 || len(g.Forms) != 2 || g.Roots[0] != 1 || g.Roots[1] != 0 || g.Roots[2] != 1 {
		t.Errorf("R5: %+v", g)
	}
}

// R5, R6: what holds always, or never, has no atom.
func TestFixed(t *testing.T) {
	m := newMaker(t, "U")
	x, u := m.constant(1), m.constant(2)
	next := m.op(api.OpAdd, x, m.num("1"))
	yes, no := []api.Form{f(api.FormTrue)}, []api.Form{f(api.FormTrue), f(api.FormNot, 0)}
	for _, c := range []struct {
		root  int
		forms []api.Form
	}{
		{m.op(api.OpLe, x, next), yes},
		{m.op(api.OpLe, x, x), yes},
		{m.op(api.OpLt, x, x), no},
		{m.op(api.OpLt, x, next), yes},
		{m.op(api.OpLe, next, x), no},
		{m.op(api.OpGe, x, next), no},
		{m.op(api.OpGt, next, x), yes},
		{m.op(api.OpEq, x, next), no},
		{m.op(api.OpEq, x, m.op(api.OpSub, next, m.num("1"))), yes},
		{m.op(api.OpDistinct, x, next), []api.Form{f(api.FormTrue), f(api.FormNot, 0), f(api.FormNot, 1)}},
		{m.op(api.OpEq, u, u), yes},
		{m.op(api.OpDistinct, u, u), no},
	} {
		g := m.goal(c.root)
		if len(g.Atoms) != 0 || g.Roots[0] != len(c.forms)-1 || !slices.EqualFunc(g.Forms, c.forms, sameForm) {
			t.Errorf("R5, R6: of the term %d: %+v, want %+v", c.root, g, c.forms)
		}
	}
}

// R7: the forms of the operators over p, q, r, whose forms are 0, 1, 2; behind them is that of the term that all three are in.
func TestForms(t *testing.T) {
	m := newMaker(t)
	p, q, r := m.constant(0), m.constant(0), m.constant(0)
	all := m.op(api.OpAnd, p, q, r)
	iff, not := api.FormIff, api.FormNot
	for _, c := range []struct {
		root int
		want []api.Form
	}{
		{m.op(api.OpNot, q), []api.Form{f(not, 1)}},
		{m.op(api.OpAnd, q, p, q), []api.Form{f(api.FormAnd, 1, 0, 1)}},
		{m.op(api.OpOr, r, r), []api.Form{f(api.FormOr, 2, 2)}},
		{m.op(api.OpImplies, q, p), []api.Form{f(not, 1), f(api.FormOr, 4, 0)}},
		{m.op(api.OpImplies, r, p, q), []api.Form{f(not, 2), f(not, 0), f(api.FormOr, 4, 5, 1)}},
		{m.op(api.OpImplies, p, p, p), []api.Form{f(not, 0), f(api.FormOr, 4, 4, 0)}},
		{m.op(api.OpXor, p, q), []api.Form{f(iff, 0, 1), f(not, 4)}},
		{m.op(api.OpXor, r, q, p), []api.Form{f(iff, 2, 1), f(not, 4), f(iff, 5, 0), f(not, 6)}},
		{m.op(api.OpIte, r, p, q), []api.Form{f(api.FormIte, 2, 0, 1)}},
		{m.op(api.OpEq, r, p), []api.Form{f(iff, 2, 0)}},
		{m.op(api.OpEq, r, p, q), []api.Form{f(iff, 2, 0), f(iff, 0, 1), f(api.FormAnd, 4, 5)}},
		{m.op(api.OpEq, p, p, p), []api.Form{f(iff, 0, 0), f(api.FormAnd, 4, 4)}},
		{m.op(api.OpDistinct, r, p), []api.Form{f(iff, 2, 0), f(not, 4)}},
		{m.op(api.OpDistinct, r, p, q), []api.Form{f(iff, 2, 0), f(not, 4), f(iff, 2, 1), f(not, 6), f(iff, 0, 1), f(not, 8), f(api.FormAnd, 5, 7, 9)}},
		{m.op(api.OpTrue), []api.Form{f(api.FormTrue)}},
		{m.op(api.OpFalse), []api.Form{f(api.FormTrue), f(not, 4)}},
	} {
		g := m.goal(c.root, all)
		want := append([]api.Form{atomForm(0), atomForm(1), atomForm(2), f(api.FormAnd, 0, 1, 2)}, c.want...)
		if !slices.EqualFunc(g.Forms, want, sameForm) || !slices.Equal(g.Roots, []int{len(want) - 1, 3}) {
			t.Errorf("R7: of the term %d: %+v, want %+v", c.root, g, want)
		}
	}
}

// R7: chains of relations, over numbers and over elements.
func TestChains(t *testing.T) {
	m := newMaker(t, "U")
	u, v := m.constant(2), m.constant(2)
	eq := []api.Atom{{Kind: api.AtomEq, L: 2, R: 3}}
	chain := m.op(api.OpEq, v, u, v)
	check(t, "R6, R7", m.Export(), api.Goal{
		Nodes: nodes(app(0, 2, u), app(1, 2, v)),
		Atoms: eq,
		Forms: []api.Form{atomForm(0), f(api.FormAnd, 0, 0)},
		Roots: []int{1, 1},
	}, chain, chain)
	x, y := m.constant(1), m.constant(1)
	rise := m.op(api.OpLe, x, y, x)
	up, down := atMost(form("0", api.Mono{V: 2, C: "1"}, api.Mono{V: 3, C: "-1"})), atMost(form("0", api.Mono{V: 2, C: "-1"}, api.Mono{V: 3, C: "1"}))
	want := api.Goal{
		Nodes: nodes(app(2, 1, x), app(3, 1, y)),
		Atoms: []api.Atom{up, down},
		Forms: []api.Form{atomForm(0), atomForm(1), f(api.FormAnd, 0, 1)},
		Roots: []int{2},
	}
	check(t, "R7", m.Export(), want, rise)
	// Of x = y and y = x the parts are the same: one form stands for both, and for x <= y <= x.
	want.Roots = []int{2, 2, 2}
	turned, straight := m.op(api.OpEq, y, x), m.op(api.OpEq, x, y)
	check(t, "R5, R6", m.Export(), want, turned, rise, straight)
}

// R5: constraints whose texts would run together if nothing stood between their parts are different atoms all the same.
func TestAtomsThatLookAlike(t *testing.T) {
	m := newMaker(t)
	x := m.constants(1, 60) // the nodes from 2 on
	zero := m.num("0")
	at := func(k string, parts ...any) int { // x of the node 2, so many times the others, and k, at most 0
		sum := []int{x[0], m.num(k)}
		for i := 0; i < len(parts); i += 2 {
			sum = append(sum, m.op(api.OpMul, m.num(parts[i].(string)), x[parts[i+1].(int)-2]))
		}
		return m.op(api.OpLe, m.op(api.OpAdd, sum...), zero)
	}
	roots := []int{
		at("0", "13", 4), at("0", "3", 41), at("4", "13", 3), at("34", "1", 3), at("0", "13", 3, "1", 4), at("0", "1", 3, "1", 34),
		at("0", "1", 3, "1", 4), at("1", "1", 3), at("1", "1", 31), at("0", "1", 4), at("-1", "1", 4), at("0", "-1", 4), at("0", "1/2", 4), at("2", "1", 4),
	}
	chain := m.op(api.OpLe, x...) // so that all of them count: 59 more atoms
	g := m.goal(m.op(api.OpOr, roots...), chain)
	if len(g.Atoms) != len(roots)+59 || len(g.Forms) != len(roots)+59+2 {
		t.Errorf("R5: %d atoms and %d forms of %d constraints", len(g.Atoms), len(g.Forms), len(roots)+59)
	}
}
