package prep_test

import (
	"math"
	"math/rand"
	"strconv"
	"testing"

	"arbiter/api"
	"arbiter/lin"
	"arbiter/prep"
	"arbiter/term"
	"arbiter/world"
)

// gen makes banks, structures and goals by chance.
type gen struct {
	rng *rand.Rand
	maker
}

func newGen(t *testing.T, seed int64) *gen {
	g := &gen{rand.New(rand.NewSource(seed)), newMaker(t, "U", "V")}
	for sort := range 4 { // two constants of each sort, so that there are terms of each
		g.constant(sort)
		g.constant(sort)
	}
	for range 2 + g.rng.Intn(4) {
		var args []int
		for range g.rng.Intn(4) {
			args = append(args, g.rng.Intn(4))
		}
		g.fun("f"+strconv.Itoa(len(args)), g.rng.Intn(4), args...)
	}
	for range 30 + g.rng.Intn(50) {
		g.term()
	}
	return g
}

// pick tells a term of that sort.
func (g *gen) pick(b api.Bank, sort int) int {
	for {
		if t := g.rng.Intn(len(b.Terms)); b.Terms[t].Sort == sort {
			return t
		}
	}
}

func (g *gen) picks(b api.Bank, sort, count int) []int {
	var list []int
	for range count {
		list = append(list, g.pick(b, sort))
	}
	return list
}

// term makes one more term, or none, if it is refused.
func (g *gen) term() {
	b := g.Export()
	switch g.rng.Intn(6) {
	case 0:
		g.num(numbers[g.rng.Intn(len(numbers))])
	case 1, 2:
		fun := g.rng.Intn(len(b.Funs))
		var args []int
		for _, s := range b.Funs[fun].Args {
			args = append(args, g.pick(b, s))
		}
		g.app(fun, args...)
	default:
		op := 1 + g.rng.Intn(20)
		sort, count := api.SortReal, 1+g.rng.Intn(4)
		switch {
		case op <= api.OpFalse:
			count = 0
		case op == api.OpNot:
			sort, count = api.SortBool, 1
		case op >= api.OpImplies && op <= api.OpXor:
			sort = api.SortBool
		case op == api.OpEq || op == api.OpDistinct:
			sort = g.rng.Intn(4)
		case op == api.OpIte:
			s := g.rng.Intn(4)
			g.Op(op, append(g.picks(b, api.SortBool, 1), g.picks(b, s, 2)...))
			return
		}
		g.Op(op, g.picks(b, sort, count))
	}
}

var numbers = []string{"0", "1", "-1", "2", "1/2", "-7/3", "100", "-12345678901234567890123/7"}

// roots is some terms of sort Bool.
func (g *gen) roots(b api.Bank) []int {
	return g.picks(b, api.SortBool, g.rng.Intn(5))
}

// value is one of so few that they meet often.
func (g *gen) value(sort int) api.Value {
	switch sort {
	case api.SortBool:
		return truth(g.rng.Intn(2))
	case api.SortReal:
		return number(numbers[g.rng.Intn(len(numbers))])
	}
	return api.Value{Sort: sort, N: g.rng.Intn(3)}
}

func (g *gen) model(b api.Bank) api.Model {
	var m api.Model
	for _, f := range b.Funs {
		t := table(g.value(f.Out))
		for range g.rng.Intn(9) {
			r := row(g.value(f.Out))
			for _, s := range f.Args {
				r.Args = append(r.Args, g.value(s))
			}
			t.Rows = append(t.Rows, r)
		}
		m.Tables = append(m.Tables, t)
	}
	return m
}

// look asks of many banks, with roots and the goal of these.
func look(t *testing.T, count int, ask func(g *gen, b api.Bank, roots []int, goal api.Goal)) {
	t.Helper()
	for seed := range int64(count) {
		g := newGen(t, seed)
		b := g.Export()
		roots := g.roots(b)
		ask(g, b, roots, goalOf(t, b, roots...))
		if t.Failed() {
			t.Fatalf("of the seed %d", seed)
		}
	}
}

// R3 to R9: goals are those that the chapter's words make; and sound (goalOf asks for that).
func TestGoalsByChance(t *testing.T) {
	look(t, 3000, func(g *gen, b api.Bank, roots []int, goal api.Goal) {
		if want := plainGoal(b, roots); !sameGoal(goal, want) {
			t.Errorf("R3 to R8: the goal of %v of %+v\n is   %+v\n want %+v", roots, b, goal, want)
		}
		again := goalOf(t, cloneBank(b), roots...)
		if !sameGoal(goal, again) {
			t.Errorf("R1, P0.5: the goal of %v is another when it is asked again", roots)
		}
	})
}

// R5: the constraint of every atom is tidy and ConLe. R4: the form of a NodeLin is that of its term.
func TestConstraintsByChance(t *testing.T) {
	look(t, 300, func(g *gen, b api.Bank, roots []int, goal api.Goal) {
		bank, _ := term.Load(b)
		for _, a := range goal.Atoms {
			if a.Kind != api.AtomCon {
				continue
			}
			if c, e := lin.Tidy(a.Con); e != api.OK || a.Con.Op != api.ConLe || !sameLin(c.F, a.Con.F) || len(c.F.M) == 0 {
				t.Errorf("R5: the constraint %+v", a.Con)
			}
		}
		for _, n := range goal.Nodes {
			if n.Kind != api.NodeLin {
				continue
			}
			over, _ := bank.Lin(n.Term)
			for i := range n.Lin.M {
				over.M[i].V, n.Lin.M[i].V = 0, 0
			}
			if !sameLin(over, n.Lin) {
				t.Errorf("R4: the form %+v of the term %d, which is %+v", n.Lin, n.Term, over)
			}
		}
	})
}

// R11 to R14: what the nodes are worth, which atoms and forms hold, and what roots and sides are then.
func TestTruthByChance(t *testing.T) {
	look(t, 1500, func(g *gen, b api.Bank, roots []int, goal api.Goal) {
		m := g.model(b)
		values, e := prep.Values(b, goal, m)
		if e != api.OK || len(values) != len(goal.Nodes) || values[0] != truth(1) || values[1] != truth(0) {
			t.Fatalf("R11: Values: %v, %d", values, e)
		}
		for i, n := range goal.Nodes[2:] {
			if want, _ := world.Eval(b, m, n.Term); values[i+2] != want {
				t.Errorf("R11: the node %d, of the term %d, is worth %v, want %v", i+2, n.Term, values[i+2], want)
			}
		}
		atoms, e := prep.Atoms(goal, values)
		if e != api.OK || len(atoms) != len(goal.Atoms) {
			t.Fatalf("R12: Atoms: %v, %d", atoms, e)
		}
		for i, a := range goal.Atoms {
			if atoms[i] != plainAtom(a, values) {
				t.Errorf("R12: the atom %+v where nodes are worth %v: %v", a, values, atoms[i])
			}
		}
		forms, e := prep.Forms(goal, atoms)
		if e != api.OK || len(forms) != len(goal.Forms) {
			t.Fatalf("R13: Forms: %v, %d", forms, e)
		}
		for i := range forms {
			if forms[i] != plainFormHolds(goal, atoms, i) {
				t.Errorf("R13: the form %d of %+v with %v: %v", i, goal.Forms, atoms, forms[i])
			}
		}
		for _, s := range goal.Sides {
			if !forms[s] {
				t.Errorf("R14: the side %d does not hold", s)
			}
		}
		for i, r := range goal.Roots {
			if first, e := world.Holds(b, m, []int{roots[i]}); e != api.OK || forms[r] != (first == -1) {
				t.Errorf("R14: the root %d: %v", roots[i], forms[r])
			}
		}
	})
}

func plainAtom(a api.Atom, values []api.Value) bool {
	switch a.Kind {
	case api.AtomTrue:
		return values[a.L].N == 1
	case api.AtomEq:
		return values[a.L] == values[a.R]
	}
	sum := rational(a.Con.F.K)
	for _, m := range a.Con.F.M {
		x := rational(m.C)
		sum.Add(sum, x.Mul(x, rational(values[m.V].R)))
	}
	return sum.Sign() < 0 || a.Con.Op == api.ConLe && sum.Sign() == 0
}

func plainFormHolds(g api.Goal, atoms []bool, i int) bool {
	form := g.Forms[i]
	count := 0
	var args []bool
	for _, a := range form.Args {
		args = append(args, plainFormHolds(g, atoms, a))
		if args[len(args)-1] {
			count++
		}
	}
	switch form.Op {
	case api.FormAtom:
		return atoms[form.Atom]
	case api.FormNot:
		return count == 0
	case api.FormAnd:
		return count == len(args)
	case api.FormOr:
		return count > 0
	case api.FormIff:
		return count != 1
	case api.FormIte:
		return args[0] && args[1] || !args[0] && args[2]
	}
	return true
}

// R12, R13: of any values and any atoms, whether they go together or not, and of constraints that are not tidy.
func TestAnyValues(t *testing.T) {
	look(t, 500, func(g *gen, b api.Bank, roots []int, goal api.Goal) {
		for i, a := range goal.Atoms {
			if a.Kind == api.AtomCon && g.rng.Intn(2) == 0 {
				goal.Atoms[i].Con.Op = api.ConLt
				goal.Atoms[i].Con.F.K = numbers[g.rng.Intn(len(numbers))]
			}
		}
		values := []api.Value{truth(1), truth(0)}
		for _, n := range goal.Nodes[2:] {
			values = append(values, g.value(n.Sort))
		}
		atoms, e := prep.Atoms(goal, values)
		if e != api.OK || len(atoms) != len(goal.Atoms) {
			t.Fatalf("R12: Atoms: %v, %d", atoms, e)
		}
		for i, a := range goal.Atoms {
			if atoms[i] != plainAtom(a, values) {
				t.Errorf("R12: the atom %+v where nodes are worth %v: %v", a, values, atoms[i])
			}
			atoms[i] = g.rng.Intn(2) == 0
		}
		forms, e := prep.Forms(goal, atoms)
		if e != api.OK || len(forms) != len(goal.Forms) {
			t.Fatalf("R13: Forms: %v, %d", forms, e)
		}
		for i := range forms {
			if forms[i] != plainFormHolds(goal, atoms, i) {
				t.Errorf("R13: the form %d of %+v with %v: %v", i, goal.Forms, atoms, forms[i])
			}
		}
	})
}

var odd = []int{0, 1, 2, 3, 4, 5, 6, 7, 8, -1, -2, 100, math.MaxInt, math.MinInt}

// spoil changes one part of a goal, or a few.
func (g *gen) spoil(goal *api.Goal) {
	n := odd[g.rng.Intn(len(odd))]
	text := []string{"", "0", "1", "-1", "01", "1/1", "2/4", "1/2", "x", "-0", "+1", "1e3"}[g.rng.Intn(12)]
	list := func() []int {
		var out []int
		for range g.rng.Intn(4) {
			out = append(out, odd[g.rng.Intn(6)])
		}
		return out
	}
	monos := func(m []api.Mono) []api.Mono {
		if len(m) == 0 || g.rng.Intn(4) == 0 {
			return append(m, api.Mono{V: n, C: text})
		}
		i := g.rng.Intn(len(m))
		switch g.rng.Intn(3) {
		case 0:
			m[i].V = n
		case 1:
			m[i].C = text
		case 2:
			m[i], m[0] = m[0], m[i]
		}
		return m
	}
	switch kind := g.rng.Intn(6); {
	case kind <= 1:
		node := &goal.Nodes[g.rng.Intn(len(goal.Nodes))]
		[]func(){
			func() { node.Kind = n }, func() { node.Sort = n }, func() { node.Fun = n }, func() { node.Term = n },
			func() { node.Args = list() }, func() { node.Lin.K = text }, func() { node.Lin.M = monos(node.Lin.M) },
			func() { node.Kind, node.Lin = api.NodePick, api.Lin{} }, func() { goal.Nodes = goal.Nodes[:g.rng.Intn(len(goal.Nodes))] },
		}[g.rng.Intn(9)]()
	case kind <= 3 && len(goal.Atoms) > 0:
		a := &goal.Atoms[g.rng.Intn(len(goal.Atoms))]
		[]func(){
			func() { a.Kind = n }, func() { a.L = n }, func() { a.R = n }, func() { a.L, a.R = a.R, a.L }, func() { a.Con.Op = n },
			func() { a.Con.F.K = text }, func() { a.Con.F.M = monos(a.Con.F.M) }, func() { goal.Atoms = goal.Atoms[:len(goal.Atoms)-1] },
		}[g.rng.Intn(8)]()
	case kind == 4 && len(goal.Forms) > 0:
		form := &goal.Forms[g.rng.Intn(len(goal.Forms))]
		[]func(){
			func() { form.Op = n }, func() { form.Atom = n }, func() { form.Args = list() },
			func() { goal.Forms = goal.Forms[:len(goal.Forms)-1] },
		}[g.rng.Intn(4)]()
	default:
		if g.rng.Intn(2) == 0 {
			goal.Sides = append(goal.Sides, n)
		} else {
			goal.Roots = append(goal.Roots, n)
		}
	}
}

// R10: Check tells of goals that were changed what the chapter's words tell; and R1: no call panics, whatever it is given.
func TestSpoiltGoals(t *testing.T) {
	sound := 0
	look(t, 700, func(g *gen, b api.Bank, roots []int, goal api.Goal) {
		m := g.model(b)
		for range 12 {
			spoilt := cloneGoal(goal)
			for range 1 + g.rng.Intn(2) {
				if len(spoilt.Nodes) > 0 {
					g.spoil(&spoilt)
				}
			}
			want := api.OK
			if !plainCheck(spoilt) {
				want = api.ErrGoal
			} else {
				sound++
			}
			if e := prep.Check(spoilt); e != want {
				t.Errorf("R10: Check of %+v: %d, want %d", spoilt, e, want)
			}
			values, e := prep.Values(b, spoilt, m)
			if e != plainValuesError(b, spoilt) || e != api.OK && len(values) > 0 {
				t.Errorf("R11: Values of %+v: %v, %d", spoilt, values, e)
			}
			if atoms, e := prep.Atoms(spoilt, make([]api.Value, len(spoilt.Nodes))); e == api.OK || want == api.ErrGoal && e != want || len(atoms) > 0 {
				t.Errorf("R12: Atoms of %+v: %v, %d", spoilt, atoms, e)
			}
			forms, e := prep.Forms(spoilt, make([]bool, len(spoilt.Atoms)))
			if e != want || e != api.OK && len(forms) > 0 {
				t.Errorf("R13: Forms of %+v: %v, %d", spoilt, forms, e)
			}
		}
	})
	if sound < 300 {
		t.Errorf("only %d of the changed goals are sound", sound)
	}
}

func plainValuesError(b api.Bank, g api.Goal) api.Errno {
	if !plainCheck(g) {
		return api.ErrGoal
	}
	for _, n := range g.Nodes[2:] {
		if n.Term >= len(b.Terms) || b.Terms[n.Term].Sort != n.Sort {
			return api.ErrGoal
		}
	}
	return api.OK
}
