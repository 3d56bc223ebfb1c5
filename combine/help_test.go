package combine_test

import (
	"math/rand"
	"slices"
	"strconv"
	"testing"

	"arbiter/api"
	"arbiter/combine"
	"arbiter/lin"
	"arbiter/prep"
	"arbiter/proof"
)

func form(k string, m ...api.Mono) api.Lin {
	return api.Lin{M: m, K: k}
}

func mono(v int, c string) api.Mono {
	return api.Mono{V: v, C: c}
}

func app(sort, fun int, args ...int) api.GNode {
	return api.GNode{Kind: api.NodeApp, Sort: sort, Fun: fun, Args: args}
}

func linNode(f api.Lin) api.GNode {
	return api.GNode{Kind: api.NodeLin, Sort: api.SortReal, Fun: -1, Lin: f}
}

func pick(sort int) api.GNode {
	return api.GNode{Kind: api.NodePick, Sort: sort, Fun: -1}
}

func isTrue(node int) api.Atom {
	return api.Atom{Kind: api.AtomTrue, L: node}
}

func same(l, r int) api.Atom {
	return api.Atom{Kind: api.AtomEq, L: l, R: r}
}

func con(op int, k string, m ...api.Mono) api.Atom {
	return api.Atom{Kind: api.AtomCon, Con: api.Con{Op: op, F: form(k, m...)}}
}

// goal is one with these nodes behind the nodes 0 and 1.
func goal(nodes []api.GNode, atoms ...api.Atom) api.Goal {
	truth := []api.GNode{{Kind: api.NodeTrue, Fun: -1, Term: -1}, {Kind: api.NodeFalse, Fun: -1, Term: -1}}
	return api.Goal{Nodes: append(truth, nodes...), Atoms: atoms}
}

// example is the goal of the chapter's examples.
func example() api.Goal {
	return goal(
		[]api.GNode{app(1, 0), app(1, 1), app(2, 2, 2), app(2, 2, 3), linNode(form("1", mono(2, "1"))), app(2, 2, 6), app(0, 3), app(2, 4, 8), app(2, 4, 0)},
		con(api.ConLe, "0", mono(2, "1"), mono(3, "-1")),
		con(api.ConLe, "0", mono(2, "-1"), mono(3, "1")),
		same(4, 5),
		isTrue(8),
		same(9, 10),
		con(api.ConLe, "1", mono(2, "1"), mono(3, "-1")),
		same(5, 7),
		con(api.ConLt, "1", mono(2, "1"), mono(3, "-1")),
	)
}

func theory(t *testing.T, g api.Goal, held ...int) *combine.Theory {
	t.Helper()
	x, err := combine.New(g)
	if err != api.OK || x == nil {
		t.Fatalf("O2: New: %d", err)
	}
	for _, lit := range held {
		if err := x.Assert(lit); err != api.OK {
			t.Fatalf("O3: Assert(%d): %d", lit, err)
		}
	}
	return x
}

// settled tells what Check of a theory answers, once its evidence is looked over.
func settled(t *testing.T, g api.Goal, held []int, x *combine.Theory) bool {
	t.Helper()
	can := x.Check()
	lemma, notLemma := x.Lemma()
	values, notWorld := x.World()
	if x.Check() != can {
		t.Fatalf("O4: %v held: two answers\n%v", held, g)
	}
	if can {
		if notLemma != api.ErrState || len(lemma.Lits) != 0 || len(lemma.Derivs) != 0 {
			t.Fatalf("O5: %v held: a lemma, %d, where none is\n%v", held, notLemma, g)
		}
		world(t, g, held, values, notWorld)
	} else {
		if notWorld != api.ErrState || len(values) != 0 {
			t.Fatalf("O6: %v held: values, %d, where none are\n%v", held, notWorld, g)
		}
		follows(t, g, held, lemma, notLemma)
	}
	return can
}

func world(t *testing.T, g api.Goal, held []int, values []api.Value, err api.Errno) {
	t.Helper()
	if err != api.OK {
		t.Fatalf("O6: %v held: %d\n%v", held, err, g)
	}
	if fault := looseFault(g, values); fault != "" {
		t.Fatalf("O6: %v held: %s\n%v\n%v", held, fault, values, g)
	}
	for _, lit := range held {
		if !plainHolds(g, values, lit) {
			t.Fatalf("O6: %v held: %d does not hold\n%v\n%v", held, lit, values, g)
		}
	}
}

func follows(t *testing.T, g api.Goal, held []int, lemma api.Lemma, err api.Errno) {
	t.Helper()
	if err != api.OK {
		t.Fatalf("O5: %v held: %d\n%v", held, err, g)
	}
	for i, lit := range lemma.Lits {
		if !slices.Contains(held, -lit) || slices.Contains(lemma.Lits[:i], lit) {
			t.Fatalf("O5: %v held: the lemma %v has %d\n%v", held, lemma, lit, g)
		}
	}
	if err, fault := proof.Lemma(g, lemma); err != api.OK {
		t.Fatalf("O5, O8: %v held: the step %d of the lemma %v does not follow\n%v", held, fault, lemma, g)
	}
}

// can tells, by evidence, whether literals can be true together.
func can(t *testing.T, g api.Goal, held ...int) bool {
	t.Helper()
	return settled(t, g, held, theory(t, g, held...))
}

// bare looks whether each literal of a lemma is needed.
func bare(t *testing.T, g api.Goal, lemma api.Lemma) {
	t.Helper()
	for i := range lemma.Lits {
		var others []int
		for _, lit := range slices.Delete(slices.Clone(lemma.Lits), i, i+1) {
			others = append(others, -lit)
		}
		if !can(t, g, others...) {
			t.Fatalf("O5: the lemma %v is not bare: %d can be left out\n%v", lemma, lemma.Lits[i], g)
		}
	}
}

// plainImplied tells what is implied, each literal by a theory of its own.
func plainImplied(t *testing.T, g api.Goal, held []int) []int {
	t.Helper()
	if !can(t, g, held...) {
		return nil
	}
	var implied []int
	for atom := range g.Atoms {
		lit := atom + 1
		if slices.Contains(held, lit) || slices.Contains(held, -lit) {
			continue
		}
		for _, l := range []int{lit, -lit} {
			if !can(t, g, append(slices.Clone(held), -l)...) {
				implied = append(implied, l)
			}
		}
	}
	return implied
}

// randomGoal makes a sound goal of few nodes and atoms, in which both theories have something to say.
func randomGoal(rng *rand.Rand) api.Goal {
	g := goal(nil)
	sorts := map[int][]int{} // by function: its sort, then those of its arguments
	for range 3 + rng.Intn(9) {
		g.Nodes = append(g.Nodes, randomNode(rng, g.Nodes, sorts))
	}
	for i, n := range g.Nodes[2:] {
		if n.Sort == api.SortBool {
			g.Atoms = append(g.Atoms, isTrue(i+2))
		}
	}
	for range 3 + rng.Intn(7) {
		if atom, ok := randomAtom(rng, g.Nodes); ok {
			g.Atoms = append(g.Atoms, atom)
		}
	}
	rng.Shuffle(len(g.Atoms), func(i, j int) { g.Atoms[i], g.Atoms[j] = g.Atoms[j], g.Atoms[i] })
	if prep.Check(g) != api.OK {
		panic("the test's goal is not sound")
	}
	return g
}

func randomNode(rng *rand.Rand, nodes []api.GNode, sorts map[int][]int) api.GNode {
	switch rng.Intn(10) {
	case 0:
		return pick(rng.Intn(3))
	case 1, 2:
		if f := randomForm(rng, nodes, 2); len(f.M) > 0 || rng.Intn(3) == 0 {
			return linNode(f)
		}
	case 3, 4, 5:
		return constant(rng, sorts)
	}
	fun := 10 + rng.Intn(4)
	if len(sorts[fun]) == 0 {
		sorts[fun] = []int{rng.Intn(3)}
		for range 1 + rng.Intn(2) {
			sorts[fun] = append(sorts[fun], []int{0, 1, 1, 2}[rng.Intn(4)])
		}
	}
	n := app(sorts[fun][0], fun)
	for _, sort := range sorts[fun][1:] {
		arg, ok := someNode(rng, nodes, sort)
		if !ok {
			return constant(rng, sorts)
		}
		n.Args = append(n.Args, arg)
	}
	return n
}

// constant is a function without arguments, which may be one that is there already.
func constant(rng *rand.Rand, sorts map[int][]int) api.GNode {
	fun := rng.Intn(10)
	if len(sorts[fun]) == 0 {
		sorts[fun] = []int{[]int{0, 1, 1, 1, 2}[rng.Intn(5)]}
	}
	return app(sorts[fun][0], fun)
}

func someNode(rng *rand.Rand, nodes []api.GNode, sort int) (int, bool) {
	for _, i := range rng.Perm(len(nodes)) {
		if nodes[i].Sort == sort {
			return i, true
		}
	}
	return 0, false
}

// randomForm is over few nodes of sort Real that are no forms.
func randomForm(rng *rand.Rand, nodes []api.GNode, most int) api.Lin {
	var m []api.Mono
	for _, i := range rng.Perm(len(nodes)) {
		if len(m) < most && nodes[i].Sort == api.SortReal && nodes[i].Kind != api.NodeLin {
			m = append(m, mono(i, []string{"1", "1", "1", "-1", "-1", "2", "-1/3"}[rng.Intn(7)]))
		}
	}
	if len(m) > 0 {
		m = m[:1+rng.Intn(len(m))]
	}
	f, _ := lin.Form(m, strconv.Itoa([]int{0, 0, 0, 1, -1, 2}[rng.Intn(6)]))
	return f
}

func randomAtom(rng *rand.Rand, nodes []api.GNode) (api.Atom, bool) {
	if rng.Intn(3) > 0 {
		if rng.Intn(2) > 0 {
			// A difference of two nodes: so that nodes come out the same.
			f := randomForm(rng, nodes, 2)
			if len(f.M) == 2 {
				f.M[0].C, f.M[1].C = "1", "-1"
				return api.Atom{Kind: api.AtomCon, Con: api.Con{Op: api.ConLe + rng.Intn(2), F: f}}, true
			}
		}
		return api.Atom{Kind: api.AtomCon, Con: api.Con{Op: api.ConLe + rng.Intn(2), F: randomForm(rng, nodes, 3)}}, true
	}
	l, ok := someNode(rng, nodes, 2)
	r, _ := someNode(rng, nodes, 2)
	return same(min(l, r), max(l, r)), ok && l != r
}

func randomLits(rng *rand.Rand, g api.Goal, most int) []int {
	var lits []int
	if len(g.Atoms) == 0 {
		return nil
	}
	for range rng.Intn(most + 1) {
		lits = append(lits, (1+rng.Intn(len(g.Atoms)))*(1-2*rng.Intn(2)))
	}
	return lits
}
