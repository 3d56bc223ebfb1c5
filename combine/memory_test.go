package combine_test

import (
	"math/rand"
	"reflect"
	"slices"
	"testing"

	"arbiter/api"
	"arbiter/combine"
)

// roomy is a list with spare room, and something in it.
func roomy[T any](list []T, more T) []T {
	return append(slices.Grow(slices.Clone(list), 2), more, more)[:len(list)]
}

// whole is a list up to the end of its spare room.
func whole[T any](list []T) []T {
	return slices.Clone(list[:cap(list)])
}

func spoil[T any](list []T, with T) {
	for i := range list[:cap(list)] {
		list[:cap(list)][i] = with
	}
}

func roomyGoal(g api.Goal) api.Goal {
	g.Nodes, g.Atoms = roomy(g.Nodes, pick(9)), roomy(g.Atoms, isTrue(99))
	g.Forms = roomy([]api.Form{{Op: api.FormTrue}, {Op: api.FormNot, Args: roomy([]int{0}, 7)}}, api.Form{Op: 99})
	g.Sides, g.Roots = roomy([]int{0}, 77), roomy([]int{1}, 77)
	for i, n := range g.Nodes {
		g.Nodes[i].Args, g.Nodes[i].Lin.M = roomy(n.Args, 77), roomy(n.Lin.M, mono(77, "77"))
	}
	for i, a := range g.Atoms {
		g.Atoms[i].Con.F.M = roomy(a.Con.F.M, mono(77, "77"))
	}
	return g
}

func wholeGoal(g api.Goal) api.Goal {
	out := api.Goal{Nodes: whole(g.Nodes), Atoms: whole(g.Atoms), Forms: whole(g.Forms), Sides: whole(g.Sides), Roots: whole(g.Roots)}
	for i, n := range out.Nodes {
		out.Nodes[i].Args, out.Nodes[i].Lin.M = whole(n.Args), whole(n.Lin.M)
	}
	for i, a := range out.Atoms {
		out.Atoms[i].Con.F.M = whole(a.Con.F.M)
	}
	for i, f := range out.Forms {
		out.Forms[i].Args = whole(f.Args)
	}
	return out
}

func spoilGoal(g api.Goal) {
	for i := range g.Nodes[:cap(g.Nodes)] {
		n := g.Nodes[:cap(g.Nodes)][i]
		spoil(n.Args, 1)
		spoil(n.Lin.M, mono(2, "55"))
	}
	for i := range g.Atoms[:cap(g.Atoms)] {
		spoil(g.Atoms[:cap(g.Atoms)][i].Con.F.M, mono(2, "55"))
	}
	spoil(g.Nodes, pick(0))
	spoil(g.Atoms, con(api.ConLt, "1"))
}

// TestHandedIn: a goal is neither changed nor kept.
func TestHandedIn(t *testing.T) {
	for seed := range int64(60) {
		rng := rand.New(rand.NewSource(seed))
		g := knot(rng)
		if seed == 0 {
			g = example()
		}
		in := roomyGoal(g)
		before := wholeGoal(in)
		x := theory(t, in)
		if !reflect.DeepEqual(before, wholeGoal(in)) {
			t.Fatal("O1: New changes what is handed in")
		}
		y := theory(t, g)
		spoilGoal(in)
		for round := range 3 {
			lits := randomLits(rng, g, 12)
			if seed == 0 && round == 0 {
				lits = []int{6, -8, -7} // their lemma needs a form
			}
			for _, lit := range lits {
				x.Assert(lit)
				y.Assert(lit)
			}
			if a, b := answers(x), answers(y); !reflect.DeepEqual(a, b) {
				t.Fatalf("O1: what is handed in is kept: %v, then %v", a, b)
			}
		}
	}
}

// spoilLemma writes into all that a lemma is made of.
func spoilLemma(l api.Lemma) {
	spoil(l.Lits, 1)
	for i := range l.Derivs {
		spoil(l.Derivs[i].Up, api.Coef{Kind: 9, Ref: 9, C: "9"})
	}
	for i := range l.Derivs {
		spoil(l.Derivs[i].Down, api.Coef{Kind: 8, Ref: 8, C: "8"})
	}
	spoil(l.Derivs, api.Deriv{Kind: 7})
}

// copyLemma is a lemma of its own memory.
func copyLemma(l api.Lemma) api.Lemma {
	out := api.Lemma{Lits: slices.Clone(l.Lits), Derivs: slices.Clone(l.Derivs)}
	for i, d := range out.Derivs {
		out.Derivs[i].Up, out.Derivs[i].Down = slices.Clone(d.Up), slices.Clone(d.Down)
	}
	return out
}

// TestHandedOut: what is written into an answer changes nothing but this answer, and no other list of it.
func TestHandedOut(t *testing.T) {
	for seed := range int64(60) {
		rng := rand.New(rand.NewSource(seed))
		g := knot(rng)
		x, y := theory(t, g), theory(t, g)
		for range 6 {
			for _, lit := range randomLits(rng, g, 4) {
				x.Assert(lit)
				y.Assert(lit)
			}
			kept, _ := y.Lemma()
			want := copyLemma(kept)
			lemma, _ := x.Lemma()
			apartLists(t, lemma)
			spoilLemma(lemma)
			values, _ := x.World()
			spoil(values, api.Value{Sort: 9, N: 9, R: "9"})
			y.World()
			spoil(x.Implied(), 9)
			y.Implied()
			if a, b := answers(x), answers(y); !reflect.DeepEqual(a, b) {
				t.Fatalf("O1: an answer shares memory with the theory: %v, then %v", a, b)
			}
			if !reflect.DeepEqual(want, kept) {
				t.Fatal("O1: a lemma changes once it is told")
			}
		}
	}
}

// apartLists looks whether two lists of a lemma share memory.
func apartLists(t *testing.T, l api.Lemma) {
	t.Helper()
	before := copyLemma(l)
	for i, d := range l.Derivs {
		for _, list := range [][]api.Coef{d.Up, d.Down} {
			spare := list[len(list):cap(list)]
			spoil(spare, api.Coef{Kind: 6, Ref: 6, C: "6"})
			if !reflect.DeepEqual(before, copyLemma(l)) {
				t.Fatalf("O1: the lists of the step %d of a lemma share memory with others", i)
			}
		}
	}
}

// TestTwo: two theories know nothing of one another.
func TestTwo(t *testing.T) {
	g := example()
	x, y := theory(t, g, 1, 2, -3), theory(t, g)
	if x.Check() || !y.Check() {
		t.Fatal("O1: two theories of one goal")
	}
	y.Assert(4)
	if got := y.Implied(); !slices.Equal(got, []int{5}) {
		t.Errorf("O1: what is implied in one of two theories: %v", got)
	}
	var third *combine.Theory = theory(t, g, -4)
	x.Undo(3)
	if !x.Check() || !third.Check() || !slices.Equal(y.Implied(), []int{5}) {
		t.Error("O1: three theories of one goal")
	}
}
