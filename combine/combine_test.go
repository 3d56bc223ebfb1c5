package combine_test

import (
	"math"
	"slices"
	"testing"

	"arbiter/api"
	"arbiter/combine"
)

// opposites tells the opposite literals, in rising order.
func opposites(lits []int) []int {
	var list []int
	for _, lit := range lits {
		list = append(list, -lit)
	}
	slices.Sort(list)
	return list
}

func sorted(list ...int) []int {
	return slices.Sorted(slices.Values(list))
}

func TestExamples(t *testing.T) {
	for _, c := range []struct {
		held    []int
		can     bool
		clash   []int // the literals that the lemma is of
		steps   int
		implied []int
	}{
		{nil, true, nil, 0, nil},
		{[]int{1, 2, -3}, false, []int{1, 2, -3}, 2, nil},
		{[]int{1, -3}, true, nil, 0, []int{-2}},
		{[]int{-1, -2}, false, []int{-1, -2}, 1, nil},
		{[]int{4, -5}, false, []int{4, -5}, 1, nil},
		{[]int{-4, -5}, true, nil, 0, nil},
		{[]int{-5}, true, nil, 0, []int{-4}},
		{[]int{6, -8, -7}, false, []int{6, -7, -8}, 2, nil},
		{[]int{6, -7}, true, nil, 0, []int{1, -2, 8}},
		{[]int{1, 2}, true, nil, 0, []int{3, -6, -8}},
		{[]int{4}, true, nil, 0, []int{5}},
		{[]int{8, 1, 2}, false, []int{2, 8}, 1, nil},
		{[]int{1, 1, 2, 3}, true, nil, 0, []int{-6, -8}},
		{[]int{4, 6, -4}, false, []int{4, -4}, 1, nil},
		{[]int{3, 7, -3}, false, []int{3, -3}, 1, nil},
		{[]int{6, -6}, false, []int{6, -6}, 1, nil},
		{[]int{1, 2, 3, 4, 5, -6, 7, -8}, true, nil, 0, nil},
	} {
		g := example()
		x := theory(t, g, c.held...)
		if got := settled(t, g, c.held, x); got != c.can {
			t.Errorf("O4: %v held: %v", c.held, got)
		}
		lemma, _ := x.Lemma()
		if got := opposites(lemma.Lits); !slices.Equal(got, sorted(c.clash...)) || len(lemma.Derivs) != c.steps {
			t.Errorf("O5: %v held: the lemma %v", c.held, lemma)
		}
		bare(t, g, lemma)
		if got := x.Implied(); !slices.Equal(got, c.implied) {
			t.Errorf("O7: %v held: %v is implied, want %v", c.held, got, c.implied)
		}
		if got := plainImplied(t, g, c.held); !slices.Equal(got, c.implied) {
			t.Errorf("O7: %v held: each by itself %v, want %v", c.held, got, c.implied)
		}
	}
}

func TestNew(t *testing.T) {
	spoil := func(change func(g *api.Goal)) api.Goal {
		g := example()
		change(&g)
		return g
	}
	for name, g := range map[string]api.Goal{
		"no nodes":                  {},
		"one node":                  spoil(func(g *api.Goal) { g.Nodes = g.Nodes[:1] }),
		"the node 0 is no truth":    spoil(func(g *api.Goal) { g.Nodes[0].Kind = api.NodeApp }),
		"a later argument":          spoil(func(g *api.Goal) { g.Nodes[4].Args = []int{4} }),
		"an argument below 0":       spoil(func(g *api.Goal) { g.Nodes[4].Args = []int{-1} }),
		"no kind":                   spoil(func(g *api.Goal) { g.Nodes[4].Kind = 9 }),
		"a form over a form":        spoil(func(g *api.Goal) { g.Nodes = append(g.Nodes, linNode(form("0", mono(6, "1")))) }),
		"a form of no number":       spoil(func(g *api.Goal) { g.Nodes[6].Lin.K = "2/4" }),
		"a form of nothing":         spoil(func(g *api.Goal) { g.Nodes[6].Lin = api.Lin{} }),
		"two sorts of one function": spoil(func(g *api.Goal) { g.Nodes[5].Sort = 3 }),
		"a Bool without an atom":    spoil(func(g *api.Goal) { g.Nodes = append(g.Nodes, pick(0)) }),
		"no kind of atom":           spoil(func(g *api.Goal) { g.Atoms[0].Kind = 0 }),
		"Reals in an AtomEq":        spoil(func(g *api.Goal) { g.Atoms[2] = same(2, 3) }),
		"an AtomEq of one node":     spoil(func(g *api.Goal) { g.Atoms[2] = same(4, 4) }),
		"a constraint over a form":  spoil(func(g *api.Goal) { g.Atoms[0] = con(api.ConLe, "0", mono(6, "1")) }),
		"an equation":               spoil(func(g *api.Goal) { g.Atoms[0].Con.Op = api.ConEq }),
		"a root that is not there":  spoil(func(g *api.Goal) { g.Roots = []int{0} }),
		"a form that is none":       spoil(func(g *api.Goal) { g.Forms = []api.Form{{Op: 99}} }),
	} {
		if x, err := combine.New(g); x != nil || err != api.ErrGoal {
			t.Errorf("O2: %s: %v, %d", name, x, err)
		}
	}
	forms := spoil(func(g *api.Goal) {
		g.Forms = []api.Form{{Op: api.FormAtom, Atom: 0}, {Op: api.FormNot, Args: []int{0}}}
		g.Sides, g.Roots = []int{0}, []int{1}
	})
	if !theory(t, forms, -1).Check() {
		t.Error("O2: forms, sides and roots play no part")
	}
	if settled(t, goal(nil), nil, theory(t, goal(nil))) != true || len(theory(t, goal(nil)).Implied()) != 0 {
		t.Error("O2: a goal without atoms")
	}
}

func TestErrors(t *testing.T) {
	g := example()
	x := theory(t, g, 1, 2)
	for _, lit := range []int{0, 9, -9, math.MinInt, math.MaxInt} {
		if err := x.Assert(lit); err != api.ErrVar {
			t.Errorf("O3: Assert(%d): %d", lit, err)
		}
	}
	for _, n := range []int{-1, 3, math.MinInt, math.MaxInt} {
		if err := x.Undo(n); err != api.ErrLevel {
			t.Errorf("O3: Undo(%d): %d", n, err)
		}
	}
	if got := x.Implied(); !slices.Equal(got, []int{3, -6, -8}) {
		t.Errorf("O1: behind refused calls: %v", got)
	}
	if lemma, err := x.Lemma(); err != api.ErrState || lemma.Lits != nil || lemma.Derivs != nil {
		t.Errorf("O5: %v, %d", lemma, err)
	}
	if err := x.Undo(2); err != api.OK {
		t.Errorf("O3: Undo(2): %d", err)
	}
	if err := x.Undo(1); err != api.ErrLevel {
		t.Errorf("O3: Undo(1) with none held: %d", err)
	}
	if err := x.Undo(0); err != api.OK {
		t.Errorf("O3: Undo(0) with none held: %d", err)
	}
	if err := theory(t, goal(nil)).Assert(1); err != api.ErrVar {
		t.Errorf("O3: a literal of a goal without atoms: %d", err)
	}
	x = theory(t, g, 4, -5)
	if values, err := x.World(); err != api.ErrState || values != nil {
		t.Errorf("O6: %v, %d", values, err)
	}
	if got := x.Implied(); len(got) != 0 {
		t.Errorf("O7: %v is implied by a clash", got)
	}
}

// TestTwice: a literal that is held twice is held still when one of the two is taken back.
func TestTwice(t *testing.T) {
	for _, lits := range [][3]int{{1, 2, -3}, {4, 4, -5}, {2, 1, -3}, {-3, 1, 2}, {-5, -5, 4}, {6, -7, -8}} {
		g := example()
		x := theory(t, g, lits[0], lits[1], lits[2], lits[0], lits[1], lits[2])
		for n := 6; n > 3; n-- {
			if settled(t, g, lits[:], x) {
				t.Fatalf("O3: %v held: true, with %d of them twice", lits, n-3)
			}
			x.Undo(1)
		}
		if settled(t, g, lits[:], x) {
			t.Fatalf("O3: %v held: true", lits)
		}
		x.Undo(1)
		want := can(t, g, lits[:2]...)
		if got := settled(t, g, lits[:2], x); got != want {
			t.Fatalf("O3, O11: %v held: %v", lits[:2], got)
		}
	}
}

// TestOpposites: a literal beside its opposite clashes; each of them alone does not.
func TestOpposites(t *testing.T) {
	g := example()
	for lit := 1; lit <= len(g.Atoms); lit++ {
		for _, held := range [][]int{{lit, -lit}, {-lit, lit}, {lit, -lit, lit}} {
			x := theory(t, g, held...)
			if settled(t, g, held, x) {
				t.Errorf("O4: %v held: true", held)
			}
			if lemma, _ := x.Lemma(); !slices.Equal(sorted(lemma.Lits...), []int{-lit, lit}) {
				t.Errorf("O5: %v held: the lemma %v", held, lemma)
			}
		}
		if !can(t, g, lit) || !can(t, g, -lit) {
			t.Errorf("O4: %d, or its opposite, alone: false", lit)
		}
	}
}

// TestNeither: a Bool node that can be worth neither 1 nor 0.
func TestNeither(t *testing.T) {
	g := goal([]api.GNode{app(0, 0), app(2, 1, 2), app(2, 1, 0), app(2, 1, 1)}, isTrue(2), same(3, 4), same(3, 5))
	x := theory(t, g, -2, -3)
	if !settled(t, g, []int{-2, -3}, x) || !slices.Equal(x.Implied(), []int{1, -1}) {
		t.Errorf("O7: a node that is worth neither: %v", x.Implied())
	}
	if values, _ := x.World(); values[2].N < 2 {
		t.Errorf("O6: a node that is worth neither: %v", values)
	}
	// Three Bool nodes, each two of them apart: two elements are not enough, loose values are.
	three := goal([]api.GNode{app(0, 0), app(0, 1), app(0, 2), app(2, 3, 2), app(2, 3, 3), app(2, 3, 4)},
		isTrue(2), isTrue(3), isTrue(4), same(5, 6), same(5, 7), same(6, 7))
	if !can(t, three, -4, -5, -6) {
		t.Error("O4: three Bool nodes apart from one another: false")
	}
	if can(t, three, -4, -5, -6, 1, 2) || can(t, three, -4, -5, -6, 1, -2, 3) || !can(t, three, -4, -5, -6, 1, -2) {
		t.Error("O4: three Bool nodes apart from one another, of which some are decided")
	}
}

// TestEdges: goals of the kinds that prep.Goal does not make, and the edges of its own.
func TestEdges(t *testing.T) {
	constants := goal(nil, con(api.ConLe, "3"), con(api.ConLt, "0"), con(api.ConLe, "0"), con(api.ConLt, "-1/2"))
	for lit, want := range map[int]bool{1: false, -1: true, 2: false, -2: true, 3: true, -3: false, 4: true, -4: false} {
		if can(t, constants, lit) != want {
			t.Errorf("O4: a constraint without variables: %d held: %v", lit, !want)
		}
	}
	if got := theory(t, constants).Implied(); !slices.Equal(got, []int{-1, -2, 3, 4}) {
		t.Errorf("O7: constraints without variables: %v", got)
	}
	// x twice, the form x, the forms x + 1 and x + 1, the form 7 and the form 7, each under f.
	x := form("1", mono(2, "1"))
	twins := goal([]api.GNode{app(1, 0), app(1, 0), linNode(form("0", mono(2, "1"))), linNode(x), linNode(form("1", mono(3, "1"))), linNode(form("7")), linNode(form("7")),
		app(2, 1, 2), app(2, 1, 3), app(2, 1, 4), app(2, 1, 5), app(2, 1, 6), app(2, 1, 7), app(2, 1, 8)},
		same(9, 10), same(9, 11), same(12, 13), same(14, 15), same(9, 12), same(12, 14),
		con(api.ConLt, "0", mono(2, "1"), mono(3, "-1")), con(api.ConLe, "-6", mono(2, "1")), con(api.ConLe, "6", mono(3, "-1")))
	if got := theory(t, twins).Implied(); !slices.Equal(got, []int{1, 2, 3, 4, -7}) {
		t.Errorf("O7: nodes that are the same from the beginning: %v", got)
	}
	for _, held := range [][]int{{-1}, {-2}, {-3}, {-4}, {7}, {8, 9, -6}} {
		if can(t, twins, held...) {
			t.Errorf("O4: nodes that are the same from the beginning: %v held: true", held)
		}
	}
	if !can(t, twins, -5, -6) || !can(t, twins, 5, -6) || !can(t, twins, 8, -6) {
		t.Error("O4: nodes that can be apart: false")
	}
	sorts := goal([]api.GNode{app(math.MaxInt, 0), app(math.MaxInt, math.MaxInt), pick(7), pick(7)}, same(2, 3), same(4, 5))
	if !can(t, sorts, -1, -2) || !can(t, sorts, 1, -2) {
		t.Error("O4: sorts and functions of great numbers: false")
	}
}

// TestStrict: strict constraints and others, taken either way.
func TestStrict(t *testing.T) {
	x, y := mono(2, "1"), mono(3, "1")
	g := goal([]api.GNode{app(1, 0), app(1, 1), app(2, 2, 2), app(2, 2, 3)},
		con(api.ConLe, "-1", x), con(api.ConLt, "-1", x), con(api.ConLe, "1", mono(2, "-1")), con(api.ConLt, "1", mono(2, "-1")),
		con(api.ConLe, "-1", y), con(api.ConLe, "1", mono(3, "-1")), same(4, 5),
		con(api.ConLe, "-4", mono(2, "2"), mono(3, "2")), con(api.ConLe, "2/3", mono(2, "-1/3"), mono(3, "-1/3")))
	for _, c := range []struct {
		held []int
		want bool
	}{
		{[]int{1, 3}, true}, {[]int{2, 3}, false}, {[]int{1, 4}, false}, {[]int{-2, 1}, true}, {[]int{-2, 2}, false}, {[]int{-1, -3}, false}, {[]int{-1, 4}, true}, {[]int{-3, 2}, true}, {[]int{-4, 3}, true}, {[]int{-4, -2}, true},
		{[]int{1, 3, 5, 6, -7}, false}, {[]int{-4, -2, 5, 6, -7}, false}, {[]int{-3, 5, 6, -7}, true},
		{[]int{8, 9, 1, -7}, true}, {[]int{8, 9, 1, 3, -7}, false}, {[]int{8, 9, -4, -2, -7}, false}, {[]int{-8, 9, 1, 3, -7}, true}, {[]int{8, -9}, true}, {[]int{-8, -9}, false},
	} {
		if got := can(t, g, c.held...); got != c.want {
			t.Errorf("O4: %v held: %v", c.held, got)
		}
		if x := theory(t, g, c.held...); !c.want {
			lemma, _ := x.Lemma()
			bare(t, g, lemma)
		}
	}
}

// ladder is a goal on which equalities go from one theory to the other and back, as often as there are rungs: on each, x and y are the same by constraints, so f(x) and f(y) are; the next x is between what f(x) and f(x) are, the next y between f(y) and f(y).
func ladder(rungs int) (api.Goal, []int) {
	g := goal([]api.GNode{app(1, 0), app(1, 1)})
	between := func(a, b int) {
		g.Atoms = append(g.Atoms, con(api.ConLe, "0", mono(min(a, b), "1"), mono(max(a, b), "-1")), con(api.ConLe, "0", mono(min(a, b), "-1"), mono(max(a, b), "1")))
	}
	between(2, 3)
	x, y := 2, 3
	for i := range rungs {
		first := len(g.Nodes)
		g.Nodes = append(g.Nodes, app(1, 2, x), app(1, 2, y), app(1, 3+2*i), app(1, 4+2*i))
		between(first, first+2)
		between(first+1, first+3)
		x, y = first+2, first+3
	}
	first := len(g.Nodes)
	g.Nodes = append(g.Nodes, linNode(form("1", mono(x, "1"))), linNode(form("1", mono(y, "1"))), app(2, -1+1<<20, first), app(2, -1+1<<20, first+1))
	g.Atoms = append(g.Atoms, same(first+2, first+3))
	var held []int
	for atom := range g.Atoms {
		held = append(held, atom+1)
	}
	held[len(held)-1] *= -1
	return g, held
}

// TestLadder: both theories are needed, and many times over.
func TestLadder(t *testing.T) {
	for rungs := range 8 {
		g, held := ladder(rungs)
		x := theory(t, g, held...)
		if settled(t, g, held, x) {
			t.Fatalf("O10: %d rungs: true", rungs)
		}
		lemma, _ := x.Lemma()
		if !slices.Equal(opposites(lemma.Lits), sorted(held...)) || len(lemma.Derivs) < 2*rungs+2 {
			t.Fatalf("O5: %d rungs: the lemma %v", rungs, lemma)
		}
		for i := range held {
			others := slices.Delete(slices.Clone(held), i, i+1)
			if !can(t, g, others...) {
				t.Fatalf("O5: %d rungs, without %d: false", rungs, held[i])
			}
		}
		x.Undo(1)
		if got := x.Implied(); !slices.Equal(got, []int{-held[len(held)-1]}) {
			t.Fatalf("O7: %d rungs: %v", rungs, got)
		}
	}
}

// TestBare: literals that a reason goes by, though others that it needs anyway say the same.
func TestBare(t *testing.T) {
	a, b := 2, 3 // of the declared sort 2
	things := goal([]api.GNode{app(2, 0), app(2, 1), app(2, 2, a), app(2, 2, b), app(2, 3, a, 4), app(2, 3, b, 5)}, same(4, 5), same(a, b), same(6, 7))
	x, y := 2, 3 // of sort Real
	le := con(api.ConLe, "0", mono(x, "1"), mono(y, "-1"))
	ge := con(api.ConLe, "0", mono(x, "-1"), mono(y, "1"))
	numbers := goal([]api.GNode{app(1, 0), app(1, 1), app(2, 2, x), app(2, 2, y), app(2, 3, x, 4), app(2, 3, y, 5)}, same(4, 5), le, ge, same(6, 7))
	// f(x) and f(y) are numbers here, and above and below 0; u and v are things, at which x and y are told by a function.
	back := goal([]api.GNode{app(2, 0), app(2, 1), app(1, 2, 2), app(1, 2, 3), app(1, 3, 4), app(1, 3, 5)},
		con(api.ConLe, "0", mono(4, "1"), mono(5, "-1")), con(api.ConLe, "0", mono(4, "-1"), mono(5, "1")), same(2, 3), con(api.ConLt, "0", mono(6, "1")), con(api.ConLe, "0", mono(7, "-1")))
	for _, c := range []struct {
		g           api.Goal
		held, clash []int
	}{
		{things, []int{1, 2, -3}, []int{2, -3}},
		{numbers, []int{1, 2, 3, -4}, []int{2, 3, -4}},
		{numbers, []int{2, 3, 1, -4}, []int{2, 3, -4}},
		{back, []int{1, 2, 4, 5}, []int{1, 2, 4, 5}},
		{back, []int{3, 4, 5}, []int{3, 4, 5}},
	} {
		for _, held := range [][]int{c.held, slices.Concat(c.held[1:], c.held[:1])} {
			x := theory(t, c.g, held...)
			if settled(t, c.g, held, x) {
				t.Errorf("O4: %v held: true", held)
			}
			lemma, _ := x.Lemma()
			bare(t, c.g, lemma)
			if got := opposites(lemma.Lits); !slices.Equal(got, sorted(c.clash...)) {
				t.Errorf("O5: %v held: the lemma is of %v, want %v", held, got, c.clash)
			}
		}
	}
	for _, held := range [][]int{{1, 2, 3, 4, 5}, {3, 1, 2, 4, 5}, {4, 5, 2, 1, 3}} {
		x := theory(t, back, held...)
		settled(t, back, held, x)
		lemma, _ := x.Lemma()
		bare(t, back, lemma)
	}
}

// TestMore: what is implied stays so if more is held, and a clash stays one.
func TestMore(t *testing.T) {
	g, held := ladder(2)
	x := theory(t, g)
	clashed := false
	var before []int
	for _, lit := range held {
		x.Assert(lit)
		ok := x.Check()
		if clashed && ok {
			t.Fatal("O11: more literals made a verdict true that was false")
		}
		clashed = !ok
		if ok {
			now := x.Implied()
			for _, old := range before {
				if old != lit && !slices.Contains(now, old) {
					t.Fatalf("O11: %d is not implied any more behind %d", old, lit)
				}
			}
			before = now
		}
	}
	if !clashed {
		t.Fatal("O4: the ladder holds")
	}
}

// TestNumbers: the numbers of api that this chapter speaks of.
func TestNumbers(t *testing.T) {
	got := []int{api.AtomTrue, api.AtomEq, api.AtomCon, api.CoefLit, api.CoefEq, api.CoefDef, api.DerivCong, api.DerivLin, api.DerivClash, api.DerivZero, int(api.ErrGoal), int(api.ErrVar), int(api.ErrLevel), int(api.ErrState)}
	if want := []int{1, 2, 3, 1, 2, 3, 1, 2, 3, 4, 61, 70, 81, 91}; !slices.Equal(got, want) {
		t.Errorf("P0.8: %v, want %v", got, want)
	}
}
