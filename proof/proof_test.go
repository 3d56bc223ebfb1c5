package proof_test

import (
	"math"
	"slices"
	"testing"

	"arbiter/api"
	"arbiter/prep"
	"arbiter/proof"
)

// The names of api that this layer speaks have the numbers that they have there.
const (
	_ = uint(api.DerivCong-1) + uint(1-api.DerivCong)
	_ = uint(api.DerivZero-4) + uint(4-api.DerivZero)
	_ = uint(api.CoefLit-1) + uint(1-api.CoefLit)
	_ = uint(api.CoefDef-3) + uint(3-api.CoefDef)
)

func TestNumbers(t *testing.T) {
	if api.ErrStep != 71 || api.ErrLemma != 100 || api.ErrProof != 101 || api.ErrGoal != 61 || api.ErrSyntax != 40 {
		t.Errorf("P0.8: %d %d %d %d %d", api.ErrStep, api.ErrLemma, api.ErrProof, api.ErrGoal, api.ErrSyntax)
	}
}

func form(k string, m ...api.Mono) api.Lin {
	return api.Lin{M: m, K: k}
}

func app(sort, fun int, args ...int) api.GNode {
	return api.GNode{Kind: api.NodeApp, Sort: sort, Fun: fun, Args: args}
}

func con(op int, k string, m ...api.Mono) api.Atom {
	return api.Atom{Kind: api.AtomCon, Con: api.Con{Op: op, F: form(k, m...)}}
}

// example is a goal: 2 x, 3 y of Real; 4 f(x), 5 f(y) of a declared sort; 6 x + 1; 7 f(x + 1); 8 p of Bool, 9 g(p), 10 g(true); 11 h(p), 12 h(true) of Real. Its roots are the atoms 0, 1 and the opposite of 2.
func example() api.Goal {
	truth := api.GNode{Kind: api.NodeTrue, Fun: -1, Term: -1}
	falsity := api.GNode{Kind: api.NodeFalse, Fun: -1, Term: -1}
	sum := api.GNode{Kind: api.NodeLin, Sort: api.SortReal, Fun: -1, Lin: form("1", api.Mono{V: 2, C: "1"})}
	x, y, less := api.Mono{V: 2, C: "1"}, api.Mono{V: 3, C: "1"}, api.Mono{V: 3, C: "-1"}
	return api.Goal{
		Nodes: []api.GNode{truth, falsity, app(1, 0), app(1, 1), app(2, 2, 2), app(2, 2, 3), sum, app(2, 2, 6), app(0, 3), app(2, 4, 8), app(2, 4, 0), app(1, 5, 8), app(1, 5, 0)},
		Atoms: []api.Atom{
			con(api.ConLe, "0", x, less),
			con(api.ConLe, "0", api.Mono{V: 2, C: "-1"}, y),
			{Kind: api.AtomEq, L: 4, R: 5},
			{Kind: api.AtomTrue, L: 8},
			{Kind: api.AtomEq, L: 9, R: 10},
			con(api.ConLe, "1", x, less),
			{Kind: api.AtomEq, L: 5, R: 7},
			con(api.ConLt, "1", x, less),
			con(api.ConLt, "0", api.Mono{V: 11, C: "1"}, api.Mono{V: 12, C: "-1"}),
		},
		Forms: []api.Form{{Op: api.FormAtom}, {Op: api.FormAtom, Atom: 1}, {Op: api.FormAtom, Atom: 2}, {Op: api.FormNot, Args: []int{2}}, {Op: api.FormAnd, Args: []int{0, 1}}},
		Roots: []int{0, 1, 3, 4},
	}
}

func lit(ref int, c string) api.Coef { return api.Coef{Kind: api.CoefLit, Ref: ref, C: c} }
func eq(ref int, c string) api.Coef  { return api.Coef{Kind: api.CoefEq, Ref: ref, C: c} }
func def(ref int, c string) api.Coef { return api.Coef{Kind: api.CoefDef, Ref: ref, C: c} }

func facts(list ...api.Coef) []api.Coef { return list }

func cong(a, b int) api.Deriv  { return api.Deriv{Kind: api.DerivCong, A: a, B: b} }
func clash(a, b int) api.Deriv { return api.Deriv{Kind: api.DerivClash, A: a, B: b} }
func zero(list ...api.Coef) api.Deriv {
	return api.Deriv{Kind: api.DerivZero, Up: list}
}
func between(a, b int, up, down []api.Coef) api.Deriv {
	return api.Deriv{Kind: api.DerivLin, A: a, B: b, Up: up, Down: down}
}

// same says that x and y are the same, by the atoms 0 and 1.
func same() api.Deriv { return between(2, 3, facts(lit(1, "1")), facts(lit(2, "1"))) }

// next says that y and x + 1 are the same, by the atoms 5 and 7.
func next() api.Deriv {
	return between(3, 6, facts(lit(-8, "1"), def(6, "-1")), facts(lit(6, "1"), def(6, "1")))
}

func with(d api.Deriv, change func(d *api.Deriv)) api.Deriv {
	change(&d)
	return d
}

type lemmaCase struct {
	why   string
	lits  []int
	steps []api.Deriv
	fault int // -1: it follows
}

func goodLemmas() []lemmaCase {
	return []lemmaCase{
		{"the chapter's", []int{-1, -2, 3}, []api.Deriv{same(), clash(4, 5)}, -1},
		{"the other way round", []int{-1, -2, 3}, []api.Deriv{same(), clash(5, 4)}, -1},
		{"below and above", []int{1, 2}, []api.Deriv{zero(lit(-1, "1"), lit(-2, "1"))}, -1},
		{"a truth", []int{-4, 5}, []api.Deriv{clash(9, 10)}, -1},
		{"a form", []int{-6, 8, 7}, []api.Deriv{next(), clash(5, 7)}, -1},
		{"literals more than once, more than are needed", []int{-1, 3, -2, 3, 3, -3, 5}, []api.Deriv{same(), clash(4, 5)}, -1},
		{"true and false are the same", []int{-4, 4}, []api.Deriv{clash(0, 1)}, -1},
		{"false and true are the same", []int{-4, 4}, []api.Deriv{cong(8, 1), clash(1, 0)}, -1},
		{"what is said of itself", []int{1, 2}, []api.Deriv{cong(4, 4), cong(6, 6), between(2, 2, nil, nil), zero(lit(-1, "1"), lit(-2, "1"))}, -1},
		{"a truth, then numbers", []int{-4, -9}, []api.Deriv{cong(11, 12), zero(lit(9, "1"), eq(0, "-1"))}, -1},
		{"a number above 0", []int{-6, -2}, []api.Deriv{zero(lit(6, "1"), lit(2, "1"))}, -1},
		{"0 where it is to be below 0", []int{-8, 6}, []api.Deriv{zero(lit(8, "7/3"), lit(-6, "7/3"))}, -1},
		{"not 0 where it is to be 0", []int{-1, -2, -4}, []api.Deriv{same(), between(3, 6, facts(lit(1, "1")), nil), zero(def(6, "1"))}, 1},
		{"not above by a number above 0", []int{-6, -2}, []api.Deriv{between(2, 3, facts(lit(6, "1")), facts(lit(2, "1"))), zero(lit(6, "1"), eq(0, "-1"))}, -1},
		{"facts 0 times", []int{-1, -2}, []api.Deriv{same(), zero(def(6, "0"), eq(0, "0"))}, 1},
		{"an equality that cannot be", []int{-6, 8, -1, -2}, []api.Deriv{next(), same(), zero(eq(0, "1"), eq(1, "1"), def(6, "1"))}, -1},
	}
}

func badLemmas() []lemmaCase {
	cannot := zero(lit(-1, "1"), lit(-2, "1"))
	return []lemmaCase{
		{"no literal", []int{-1, -2, 10}, []api.Deriv{same(), clash(4, 5)}, 0},
		{"no literal, 0", []int{1, 2, 0}, []api.Deriv{cannot}, 0},
		{"no literal, far below", []int{1, 2, math.MinInt}, []api.Deriv{cong(3, 3), cannot}, 0},
		{"no literal, far above", []int{math.MaxInt, 1, 2}, []api.Deriv{cong(3, 3), cannot}, 0},
		{"no literal and no step", []int{10}, nil, 0},
		{"no literal of three", []int{-1, -2}, []api.Deriv{same(), clash(4, 5)}, 1},
		{"no literal of two", []int{-1, 3}, []api.Deriv{same(), clash(4, 5)}, 0},
		{"the last is none of the two", []int{-1, -2, 3}, []api.Deriv{same()}, 1},
		{"no step", []int{-1, -2, 3}, nil, 0},
		{"a clash that is not the last", []int{-1, -2, 3}, []api.Deriv{same(), clash(4, 5), same()}, 1},
		{"nothing that is not the last", []int{1, 2}, []api.Deriv{cannot, cannot}, 0},
		{"too early", []int{-1, -2, 3}, []api.Deriv{clash(4, 5)}, 0},
		{"not the same", []int{1, 2}, []api.Deriv{cong(2, 3), cannot}, 0},
		{"the same but not held apart", []int{-1, -2, 5}, []api.Deriv{same(), clash(4, 5)}, 1},
		{"the same as what is held apart", []int{-1, -2, -7, 3}, []api.Deriv{same(), clash(4, 7)}, 1},
		{"up and down turned", []int{-6, 8, 7}, []api.Deriv{between(3, 6, next().Down, next().Up), clash(5, 7)}, 0},
		{"not evenly", []int{1, 2}, []api.Deriv{zero(lit(-1, "1"), lit(-2, "2"))}, 0},
		{"nothing, with a node", []int{1, 2}, []api.Deriv{with(cannot, func(d *api.Deriv) { d.A = 1 })}, 0},
		{"nothing, with another node", []int{1, 2}, []api.Deriv{with(cannot, func(d *api.Deriv) { d.B = 1 })}, 0},
		{"nothing, with Down", []int{1, 2}, []api.Deriv{with(cannot, func(d *api.Deriv) { d.Down = facts(def(6, "0")) })}, 0},
		{"a congruence with Up", []int{1, 2}, []api.Deriv{with(cong(3, 3), func(d *api.Deriv) { d.Up = facts(def(6, "0")) }), cannot}, 0},
		{"a congruence with Down", []int{1, 2}, []api.Deriv{with(cong(3, 3), func(d *api.Deriv) { d.Down = facts(def(6, "0")) }), cannot}, 0},
		{"a clash with Up", []int{-4, 5}, []api.Deriv{with(clash(9, 10), func(d *api.Deriv) { d.Up = facts(def(6, "0")) })}, 0},
		{"a clash with Down", []int{-4, 5}, []api.Deriv{with(clash(9, 10), func(d *api.Deriv) { d.Down = facts(def(6, "0")) })}, 0},
		{"no kind", []int{1, 2}, []api.Deriv{{Kind: 0}, cannot}, 0},
		{"no such kind", []int{1, 2}, []api.Deriv{{Kind: 5}}, 0},
		{"a kind below", []int{1, 2}, []api.Deriv{{Kind: -1}}, 0},
		{"no node", []int{1, 2}, []api.Deriv{cong(-1, -1), cannot}, 0},
		{"no node behind", []int{1, 2}, []api.Deriv{cong(13, 13), cannot}, 0},
		{"no second node", []int{1, 2}, []api.Deriv{cong(3, 13), cannot}, 0},
		{"no number between", []int{-4, 5}, []api.Deriv{between(9, 9, nil, nil), clash(9, 10)}, 0},
		{"no number on the right", []int{1, 2}, []api.Deriv{between(2, 4, nil, nil), cannot}, 0},
		{"no facts", []int{1, 2}, []api.Deriv{between(2, 3, nil, nil), cannot}, 0},
		{"no facts down", []int{-1, -2}, []api.Deriv{between(2, 3, facts(lit(1, "1")), nil), cannot}, 0},
		{"above by a number", []int{1, 6}, []api.Deriv{between(2, 3, facts(lit(-6, "1")), facts(lit(-1, "1"))), zero(lit(-1, "1"))}, 0},
		{"no facts to nothing", []int{1, 2}, []api.Deriv{zero()}, 0},
		{"0 where it may be 0", []int{-1, -2}, []api.Deriv{zero(lit(1, "1"), lit(2, "1"))}, 0},
		{"a number below 0", []int{6, 2}, []api.Deriv{zero(lit(-6, "1"), lit(1, "1"))}, 0},
		{"a variable is left", []int{1, 2}, []api.Deriv{zero(lit(-1, "1"))}, 0},
		{"0 times", []int{1, 2}, []api.Deriv{zero(lit(-1, "1"), lit(-2, "1"), lit(-1, "0"))}, 0},
		{"backwards", []int{-1, 2}, []api.Deriv{zero(lit(1, "-1"), lit(-2, "1"))}, 0},
		{"not canonical", []int{1, 2}, []api.Deriv{zero(lit(-1, "2/2"), lit(-2, "1"))}, 0},
		{"no number", []int{1, 2}, []api.Deriv{zero(lit(-1, "1"), lit(-2, "1"), def(6, ""))}, 0},
		{"not canonical, of a form", []int{1, 2}, []api.Deriv{zero(lit(-1, "1"), lit(-2, "1"), def(6, "0/1"))}, 0},
		{"not held", []int{1}, []api.Deriv{zero(lit(-1, "1"), lit(-2, "1"))}, 0},
		{"its opposite held", []int{-1, -2}, []api.Deriv{zero(lit(-1, "1"), lit(-2, "1"))}, 0},
		{"no constraint", []int{1, 2, 3}, []api.Deriv{zero(lit(-1, "1"), lit(-2, "1"), lit(-3, "1"))}, 0},
		{"no literal at all", []int{1, 2}, []api.Deriv{zero(lit(-1, "1"), lit(-2, "1"), lit(0, "1"))}, 0},
		{"no earlier step", []int{1, 2}, []api.Deriv{zero(lit(-1, "1"), lit(-2, "1"), eq(0, "0"))}, 0},
		{"no step below 0", []int{1, 2}, []api.Deriv{zero(lit(-1, "1"), lit(-2, "1"), eq(-1, "0"))}, 0},
		{"itself", []int{-1, -2, 3}, []api.Deriv{between(2, 3, facts(eq(0, "1")), facts(eq(0, "-1"))), clash(4, 5)}, 0},
		{"a step of no numbers", []int{1, 2}, []api.Deriv{cong(4, 4), zero(lit(-1, "1"), lit(-2, "1"), eq(0, "0"))}, 1},
		{"no form", []int{1, 2}, []api.Deriv{zero(lit(-1, "1"), lit(-2, "1"), def(2, "0"))}, 0},
		{"no node of a form", []int{1, 2}, []api.Deriv{zero(lit(-1, "1"), lit(-2, "1"), def(13, "0"))}, 0},
		{"no node of a form below", []int{1, 2}, []api.Deriv{zero(lit(-1, "1"), lit(-2, "1"), def(-1, "0"))}, 0},
		{"no kind of facts", []int{1, 2}, []api.Deriv{zero(lit(-1, "1"), lit(-2, "1"), api.Coef{Kind: 0, C: "0"})}, 0},
		{"no such kind of facts", []int{1, 2}, []api.Deriv{zero(lit(-1, "1"), lit(-2, "1"), api.Coef{Kind: 4, C: "0"})}, 0},
		{"what is no fact, of a node and itself", []int{1, 2}, []api.Deriv{between(2, 2, facts(lit(1, "1")), nil), cannot}, 0},
		{"what is no fact down, of a node and itself", []int{1, 2}, []api.Deriv{between(2, 2, nil, facts(def(2, "0"))), cannot}, 0},
		{"a fault in Up, one in Down", []int{-1, -2, 3}, []api.Deriv{between(2, 3, facts(lit(1, "2")), facts(lit(2, "2"))), clash(4, 5)}, 0},
	}
}

func TestLemma(t *testing.T) {
	g := example()
	if prep.Check(g) != api.OK {
		t.Fatal("the example is no goal")
	}
	for _, c := range slices.Concat(goodLemmas(), badLemmas()) {
		l := api.Lemma{Lits: c.lits, Derivs: c.steps}
		wantErr, want := api.OK, 0
		if c.fault >= 0 {
			wantErr, want = api.ErrLemma, c.fault
		}
		if err, at := proof.Lemma(g, l); err != wantErr || at != want {
			t.Errorf("P16.1: %s: Lemma(%v) = %d, %d, want %d, %d", c.why, l, err, at, wantErr, want)
		}
		if fault := firstFault(g, l); fault != c.fault {
			t.Errorf("%s: plainly %d, want %d", c.why, fault, c.fault)
		}
		if err, at := proof.Lemma(api.Goal{}, l); err != api.ErrGoal || at != 0 {
			t.Errorf("P16.1: %s, of no goal: %d, %d", c.why, err, at)
		}
	}
}

// shown is a proof that the roots 0, 1, 2 of the example cannot be true together.
func shown() api.Proof {
	return api.Proof{
		Lemmas: []api.Lemma{{Lits: []int{-1, -2, 3}, Derivs: []api.Deriv{same(), clash(4, 5)}}},
		Steps:  []api.Step{{Lemma: 0, Lits: []int{-1, -2, 3}}, {Lemma: -1, Lits: []int{-2, 3, -1}}},
		Failed: []int{1, 2, -3},
	}
}

func TestCheck(t *testing.T) {
	g := example()
	for _, c := range []struct {
		why  string
		turn func(p *api.Proof)
		err  api.Errno
		at   int
	}{
		{"as it is", func(p *api.Proof) {}, api.OK, 0},
		{"by the root that is both", func(p *api.Proof) { p.Failed = []int{10, -3} }, api.OK, 0},
		{"another order", func(p *api.Proof) { p.Failed = []int{-3, 2, 1, 1} }, api.OK, 0},
		{"more than enough", func(p *api.Proof) { p.Failed = []int{10, 1, 2, -3} }, api.OK, 0},
		{"the lemma alone", func(p *api.Proof) { p.Steps = p.Steps[:1] }, api.OK, 0},
		{"a lemma that is not used", func(p *api.Proof) { p.Lemmas = append(p.Lemmas, p.Lemmas[0]) }, api.OK, 0},
		{"the lemma twice", func(p *api.Proof) { p.Steps = append(p.Steps, p.Steps[0]) }, api.OK, 0},
		{"a step with a literal and its opposite", func(p *api.Proof) { p.Steps[1].Lits = []int{7, -7} }, api.OK, 0},
		{"literals twice", func(p *api.Proof) { p.Steps[1].Lits = []int{-1, -1, -2, 3, 3} }, api.OK, 0},
		{"too little failed", func(p *api.Proof) { p.Failed = []int{1, 2} }, api.ErrStep, 2},
		{"nothing failed", func(p *api.Proof) { p.Failed = nil }, api.ErrStep, 2},
		{"no steps", func(p *api.Proof) { p.Steps = nil }, api.ErrStep, 0},
		{"what failed is no root", func(p *api.Proof) { p.Failed[2] = 3 }, api.ErrProof, 2},
		{"what failed is no literal", func(p *api.Proof) { p.Failed = []int{1, 0, math.MinInt} }, api.ErrProof, 1},
		{"a lemma that does not follow", func(p *api.Proof) { p.Lemmas[0].Derivs = p.Lemmas[0].Derivs[1:] }, api.ErrLemma, 0},
		{"a lemma that does not follow and is not used", func(p *api.Proof) { p.Lemmas = append(p.Lemmas, p.Lemmas[0], api.Lemma{}) }, api.ErrLemma, 2},
		{"not the lemma's order", func(p *api.Proof) { p.Steps[0].Lits = []int{-2, -1, 3} }, api.ErrStep, 0},
		{"more than the lemma's", func(p *api.Proof) { p.Steps[0].Lits = []int{-1, -2, 3, 4} }, api.ErrStep, 0},
		{"a lemma that is not there", func(p *api.Proof) { p.Steps[0].Lemma = 1 }, api.ErrStep, 0},
		{"a lemma below", func(p *api.Proof) { p.Steps[1].Lemma = -2 }, api.ErrStep, 1},
		{"a lemma far below", func(p *api.Proof) { p.Steps[1].Lemma = math.MinInt }, api.ErrStep, 1},
		{"it does not follow", func(p *api.Proof) { p.Steps[1].Lits = []int{-2, 3} }, api.ErrStep, 1},
		{"it follows from what comes", func(p *api.Proof) { slices.Reverse(p.Steps) }, api.ErrStep, 0},
		{"no variable", func(p *api.Proof) { p.Steps[1].Lits = []int{-1, -2, 3, 11} }, api.ErrStep, 1},
		{"no literal", func(p *api.Proof) { p.Steps[1].Lits = []int{-1, -2, 3, 0} }, api.ErrStep, 1},
		{"the first that does not follow counts", func(p *api.Proof) {
			p.Steps = []api.Step{{Lemma: -1, Lits: []int{5}}, {Lemma: 7}}
		}, api.ErrStep, 0},
		{"the first that does not follow counts, a lemma", func(p *api.Proof) {
			p.Steps = []api.Step{p.Steps[0], {Lemma: 7}, {Lemma: -1, Lits: []int{5}}}
		}, api.ErrStep, 1},
		{"all wrong", func(p *api.Proof) { p.Failed[0], p.Lemmas[0].Lits, p.Steps = 9, nil, p.Steps[1:] }, api.ErrProof, 0},
		{"lemma and step wrong", func(p *api.Proof) { p.Lemmas[0].Lits, p.Steps = nil, p.Steps[1:] }, api.ErrLemma, 0},
	} {
		p := shown()
		c.turn(&p)
		if err, at := proof.Check(g, p); err != c.err || at != c.at {
			t.Errorf("P16.2: %s: Check(%v) = %d, %d, want %d, %d", c.why, p, err, at, c.err, c.at)
		}
		if err, at := plainCheck(g, p); err != c.err || at != c.at {
			t.Errorf("%s: plainly %d, %d, want %d, %d", c.why, err, at, c.err, c.at)
		}
		if err, at := proof.Check(api.Goal{Nodes: g.Nodes}, p); err != api.ErrGoal || at != 0 {
			t.Errorf("P16.2: %s, of no goal: %d, %d", c.why, err, at)
		}
	}
}

// TestNothing: of a goal in which nothing is to be true nothing can be shown; of one whose side cannot be true all can.
func TestNothing(t *testing.T) {
	g, _ := prep.Goal(api.Bank{}, nil)
	if err, at := proof.Check(g, api.Proof{}); err != api.ErrStep || at != 0 {
		t.Errorf("P16.2: no roots: %d, %d", err, at)
	}
	g.Forms = []api.Form{{Op: api.FormTrue}, {Op: api.FormNot, Args: []int{0}}}
	g.Sides = []int{1}
	if err, at := proof.Check(g, api.Proof{}); err != api.OK || at != 0 {
		t.Errorf("P16.2: a side that is false: %d, %d", err, at)
	}
	g.Sides, g.Roots = nil, []int{1}
	if err, at := proof.Check(g, api.Proof{Failed: []int{-1}}); err != api.OK || at != 0 {
		t.Errorf("P16.2: a root that is false: %d, %d", err, at)
	}
}
