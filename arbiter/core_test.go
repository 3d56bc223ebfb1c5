package arbiter

import (
	"slices"
	"testing"

	"arbiter/api"
	"arbiter/decide"
	"arbiter/sexp"
)

// TestPlainly: what is needed is needed, however it is looked for: by asking within the goal of all demands, or of each part alone.
func TestPlainly(t *testing.T) {
	for _, text := range []string{
		"(declare-const p Bool)(assert (! p :named a))(assert (! (not p) :named b))(check-sat)",
		"(declare-const p Bool)(assert p)(assert (! p :named a))(assert (not p))(check-sat)",
		"(declare-const p Bool)(declare-const q Bool)(assert (! (or p q) :named a))(assert (! (not p) :named b))(assert (! (not q) :named c))(assert (! (and p (not p)) :named d))(check-sat)",
		"(declare-const x Real)(declare-const y Real)(declare-fun f (Real) Real)(assert (! (<= x y) :named a))(assert (! (> x 3) :named b))(assert (! (<= y x) :named c))(assert (! (= x y) :named d))(check-sat-assuming ((distinct (f x) (f y)) (< x 9)))",
		"(assert false)(check-sat-assuming (true true))",
	} {
		s := New()
		if out := s.Feed(text); out != "unsat\n" {
			t.Fatalf("%s: %q", text, out)
		}
		m := s.machine
		for _, mustStay := range []func(int) bool{m.hasNoLabel, m.isAssertion} {
			for _, found := range [][]int{m.check.needed(mustStay), m.check.plainly(mustStay)} {
				minimal(t, text, m.check, mustStay, found)
			}
		}
	}
}

// minimal looks over that demands are needed, and enough.
func minimal(t *testing.T, text string, k *check, mustStay func(int) bool, found []int) {
	t.Helper()
	if can, _, _, err := decide.Terms(k.alone(k.part(mustStay, found))); can || err != api.OK {
		t.Errorf("P18.9: %s: with %v they can be true", text, found)
	}
	for i := range found {
		fewer := slices.Delete(slices.Clone(found), i, i+1)
		if can, _, _, _ := decide.Terms(k.alone(k.part(mustStay, fewer))); !can {
			t.Errorf("P18.9: %s: of %v one is not needed", text, found)
		}
	}
}

// TestMoved: the places of expressions are those in the whole text.
func TestMoved(t *testing.T) {
	nodes, _, _ := sexp.Read("(a b)")
	for i, n := range moved(slices.Clone(nodes), 7) {
		if n.At != nodes[i].At+7 || n.End != nodes[i].End+7 {
			t.Errorf("%v is moved to %v", nodes[i], n)
		}
	}
}
