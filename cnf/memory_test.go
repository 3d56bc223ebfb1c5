package cnf_test

import (
	"math/rand"
	"slices"
	"testing"

	"arbiter/api"
	"arbiter/cnf"
)

// roomy is a list with spare room, and something in it.
func roomy(list []int) []int {
	out := append(slices.Grow(slices.Clone(list), 2), -77, -77)
	return out[:len(list)]
}

func roomyCnf(c api.Cnf) api.Cnf {
	out := api.Cnf{Vars: c.Vars, Tops: roomy(c.Tops), Clauses: make([][]int, 0, len(c.Clauses)+2)}
	for _, clause := range c.Clauses {
		out.Clauses = append(out.Clauses, roomy(clause))
	}
	return out
}

// whole tells the lists of clauses up to the ends of their spare room.
func whole(c api.Cnf) api.Cnf {
	out := api.Cnf{Vars: c.Vars, Tops: slices.Clone(c.Tops[:cap(c.Tops)])}
	for _, clause := range c.Clauses[:cap(c.Clauses)] {
		out.Clauses = append(out.Clauses, slices.Clone(clause[:cap(clause)]))
	}
	return out
}

// What is handed in is not changed, nor is its spare room.
func TestWhatIsHandedInStays(t *testing.T) {
	for seed := range int64(200) {
		rng := rand.New(rand.NewSource(seed))
		c := roomyCnf(someCnf(rng))
		held := whole(c)
		cnf.Check(c)
		cnf.Tidy(c)
		cnf.Show(c)
		if !sameCnf(whole(c), held) {
			t.Fatalf("F1, P0.4: %+v is changed", held)
		}
		g := someGoal(rng)
		for i := range g.Forms {
			g.Forms[i].Args = roomy(g.Forms[i].Args)
		}
		g.Sides, g.Roots = roomy(g.Sides), roomy(g.Roots)
		atoms := append(make([]bool, len(g.Atoms), len(g.Atoms)+2), true, true)[:len(g.Atoms)]
		lists := func() [][]int {
			out := [][]int{slices.Clone(g.Sides[:cap(g.Sides)]), slices.Clone(g.Roots[:cap(g.Roots)])}
			for _, f := range g.Forms {
				out = append(out, slices.Clone(f.Args[:cap(f.Args)]))
			}
			return out
		}
		before := lists()
		cnf.Clauses(g)
		cnf.Extend(g, atoms)
		if !slices.EqualFunc(before, lists(), slices.Equal[[]int]) || slices.Contains(atoms, true) || !atoms[:cap(atoms)][len(atoms)] {
			t.Fatal("F1, P0.4: a goal is changed, or what is told of its atoms")
		}
	}
}

// spoil writes over lists, spare room included, and looks that no two of them share any.
func spoil(t *testing.T, lists ...[]int) {
	t.Helper()
	for _, list := range lists {
		list = list[:cap(list)]
		if slices.Contains(list, -99) {
			t.Fatal("P0.4: two lists of an answer share memory")
		}
		for i := range list {
			list[i] = -99
		}
	}
}

// What is handed out may be written over: no list of it is another's, an argument's or a later answer's.
func TestWhatIsHandedOutIsNew(t *testing.T) {
	for seed := range int64(200) {
		rng := rand.New(rand.NewSource(seed))
		g, c := someGoal(rng), someCnf(rng)
		want, wantLits := plainClauses(g)
		for range 2 {
			got, lits := clauses(t, g)
			if !sameCnf(got, want) || !slices.Equal(lits, wantLits) {
				t.Fatal("P0.4: Clauses' answer is another's")
			}
			spoil(t, append(got.Clauses[:len(got.Clauses):len(got.Clauses)], got.Tops, lits)...)
		}
		held := cloneCnf(c)
		text, _ := cnf.Show(c)
		for range 2 {
			got := tidy(t, c)
			if !sameCnf(got, plainTidy(held)) || !sameCnf(c, held) {
				t.Fatal("P0.4: Tidy's answer is another's")
			}
			spoil(t, append(got.Clauses[:len(got.Clauses):len(got.Clauses)], got.Tops)...)
			got, _, _ = cnf.Read(text)
			if !sameCnf(got, held) {
				t.Fatal("P0.4: Read's answer is another's")
			}
			spoil(t, append(got.Clauses[:len(got.Clauses):len(got.Clauses)], got.Tops)...)
		}
		atoms := make([]bool, len(g.Atoms))
		first, _ := cnf.Extend(g, atoms)
		kept := slices.Clone(first)
		spoil(t, first)
		if second, _ := cnf.Extend(g, atoms); !slices.Equal(second, kept) {
			t.Fatal("P0.4: Extend's answer is another's")
		}
	}
}

// P0.8: the names and the numbers that this layer speaks.
func TestNamesOfApi(t *testing.T) {
	var _ struct {
		Vars    int
		Clauses [][]int
		Tops    []int
	} = api.Cnf{}
	if api.MaxVars != 1000000 || api.ErrCnf != 62 || api.ErrGoal != 61 || api.ErrCount != 5 || api.ErrSyntax != 40 {
		t.Error("P0.8: a number of api is another")
	}
}
