package quest

import (
	"math/rand"
	"slices"
	"testing"

	"arbiter/api"
	"arbiter/prep"
	"arbiter/proof"
	"arbiter/script"
)

// parallel makes a goal of atoms about two directions over two numbers, by chance.
func parallel(r *rand.Rand) api.Goal {
	g, _ := prep.Goal(api.Bank{}, nil)
	number := api.GNode{Kind: api.NodePick, Sort: api.SortReal, Fun: -1}
	g.Nodes = append(g.Nodes, number, number)
	for range 1 + r.Intn(7) {
		form := [][]string{{"1", "-2"}, {"-1", "2"}, {"3", "-6"}, {"-1/2", "1"}, {"1", "1"}, {"-2", "-2"}}[r.Intn(6)]
		k := []string{"0", "1", "-1", "2", "-3", "1/2"}[r.Intn(6)]
		con := api.Con{Op: api.ConLe + r.Intn(2), F: api.Lin{M: []api.Mono{{V: 2, C: form[0]}, {V: 3, C: form[1]}}, K: k}}
		g.Atoms = append(g.Atoms, api.Atom{Kind: api.AtomCon, Con: con})
	}
	return g
}

// TestCuts: the lemmas about one direction follow, and say all that two of its atoms say of one another.
func TestCuts(t *testing.T) {
	r := rand.New(rand.NewSource(17))
	for range 400 {
		g := parallel(r)
		lemmas := cutLemmas(g.Atoms)
		clauses := api.Cnf{Vars: len(g.Atoms)}
		for _, l := range lemmas {
			if err, at := proof.Lemma(g, l); err != api.OK {
				t.Fatalf("the lemma %v of %v: %d, %d", l, g.Atoms, err, at)
			}
			clauses.Clauses = append(clauses.Clauses, l.Lits)
		}
		for a := range g.Atoms {
			for b := range a {
				for _, lits := range [][]int{{a + 1, b + 1}, {a + 1, -b - 1}, {-a - 1, b + 1}, {-a - 1, -b - 1}} {
					// Only bounds of one direction can clash by two.
					if can := New(g).Ask(lits).Sat; !can && !clash(clauses, lits) {
						t.Fatalf("%v of %v cannot be, but the lemmas %v do not say so", lits, g.Atoms, clauses.Clauses)
					}
				}
			}
		}
	}
}

// TestDirections: forms that are written with the same digits are not one direction.
func TestDirections(t *testing.T) {
	g, _ := prep.Goal(api.Bank{}, nil)
	for range 40 {
		g.Nodes = append(g.Nodes, api.GNode{Kind: api.NodePick, Sort: api.SortReal, Fun: -1})
	}
	for _, m := range [][]api.Mono{
		{{V: 2, C: "1"}, {V: 31, C: "5"}}, {{V: 2, C: "1"}, {V: 3, C: "15"}},
		{{V: 2, C: "1"}, {V: 3, C: "5"}, {V: 14, C: "1"}}, {{V: 2, C: "1"}, {V: 3, C: "51"}, {V: 4, C: "1"}},
	} {
		g.Atoms = append(g.Atoms, api.Atom{Kind: api.AtomCon, Con: api.Con{Op: api.ConLe, F: api.Lin{M: m, K: "0"}}})
	}
	if lemmas := cutLemmas(g.Atoms); len(lemmas) > 0 {
		t.Errorf("%v of %v", lemmas, g.Atoms)
	}
}

// clash tells whether the clauses of two literals lead from the one literal to the opposite of the other.
func clash(c api.Cnf, lits []int) bool {
	reached := []int{lits[0]}
	for i := 0; i < len(reached); i++ {
		for _, clause := range c.Clauses {
			for k, lit := range clause {
				if other := clause[1-k]; lit == -reached[i] && !slices.Contains(reached, other) {
					reached = append(reached, other)
				}
			}
		}
	}
	return slices.Contains(reached, -lits[1])
}

// TestAsk: what is asked later has the answer that it would have had at first.
func TestAsk(t *testing.T) {
	s, _, _ := script.Parse("(declare-sort U 0)(declare-fun f (Real) U)(declare-const x Real)(declare-const y Real)(declare-const p Bool)(declare-const u U)(check-sat-assuming ((<= x y) (<= y x) (distinct (f x) (f y)) p (=> p (= (f x) u)) (or (= (f y) u) (< x y)) (distinct u (f x)) (not p)))")
	g, err := prep.Goal(s.Bank, s.Cmds[len(s.Cmds)-1].Terms)
	if err != api.OK {
		t.Fatal(err)
	}
	known := New(g)
	r := rand.New(rand.NewSource(1717))
	for range 300 {
		var lits []int
		for _, lit := range known.Tops() {
			if r.Intn(2) == 0 {
				lits = append(lits, lit)
			}
		}
		first, later := New(g).Ask(lits), known.Ask(lits)
		if first.Sat != later.Sat {
			t.Fatalf("%v: at first %v, later %v", lits, first.Sat, later.Sat)
		}
		for _, lit := range later.Failed {
			if !slices.Contains(lits, lit) {
				t.Fatalf("%v: %d failed", lits, lit)
			}
		}
		if !later.Sat && known.Ask(later.Failed).Sat {
			t.Fatalf("%v: %v can be true", lits, later.Failed)
		}
		for _, step := range later.Steps {
			if step.Lemma >= 0 && !slices.Equal(step.Lits, later.Lemmas[step.Lemma].Lits) {
				t.Fatalf("%v: the step %v is not the lemma %v", lits, step, later.Lemmas[step.Lemma])
			}
		}
		if later.Sat && len(later.Values) != len(g.Nodes) {
			t.Fatalf("%v: %v", lits, later.Values)
		}
	}
}

// TestSide: an atom is seen on the side on which it stands under the values that the theories have; a truth that they do not know, on neither.
func TestSide(t *testing.T) {
	s, _, _ := script.Parse("(declare-sort U 0)(declare-const x Real)(declare-const y Real)(declare-const u U)(declare-const v U)(declare-const p Bool)(assert (or (<= x y) (<= y (+ x 1)) (< x 5) (= u v) p))")
	g, _ := prep.Goal(s.Bank, s.Cmds[len(s.Cmds)-1].Terms)
	q := New(g)
	k := &q.keeper
	for v := range g.Atoms {
		if side := k.side(v + 1); side != 0 {
			t.Errorf("at first the atom %d is seen on the side %d", v, side)
		}
	}
	k.assert(1)
	k.check([]int{1}, true)
	values, _ := k.theory.World()
	for i, atom := range g.Atoms {
		want := 0
		if atom.Kind != api.AtomTrue {
			want = -1
			if k.point.Meets(atom) {
				want = 1
			}
		}
		if got := k.side(i + 1); got != want {
			t.Errorf("under %v the atom %v is seen on the side %d, want %d", values, atom, got, want)
		}
	}
	if k.side(1) != 1 || k.side(len(g.Atoms)+1) != 0 {
		t.Error("the side of what is held, or of what is no atom")
	}
}

func TestPause(t *testing.T) {
	var p pause
	var passed []int
	for _, ok := range []bool{true, true, true, true, true, false, false, false, false, true} {
		p.begin(ok)
		count := 0
		for p.lasts() {
			count++
		}
		passed = append(passed, count)
	}
	if want := []int{1, 3, 7, 7, 7, 3, 1, 0, 0, 1}; !slices.Equal(passed, want) {
		t.Errorf("%v, want %v", passed, want)
	}
}
