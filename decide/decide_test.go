package decide_test

import (
	"reflect"
	"slices"
	"strconv"
	"strings"
	"testing"

	"arbiter/api"
	"arbiter/decide"
	"arbiter/prep"
	"arbiter/proof"
	"arbiter/world"
)

func TestNumbers(t *testing.T) {
	if api.ErrGoal != 61 || api.ErrCount != 5 || api.ErrModel != 50 || api.ErrRoot != 60 || api.ErrIndex != 30 || api.ErrLimit != 46 {
		t.Error("P0.8: an error has another number")
	}
}

func TestExamples(t *testing.T) {
	g, _ := prep.Goal(api.Bank{}, nil)
	if v := decided(t, g); !v.Sat || !reflect.DeepEqual(v.Values, []api.Value{{N: 1}, {}}) {
		t.Errorf("P17.1: no root: %v", v)
	}
	b, roots := bankOf(t, "(declare-const x Real)(assert (< x 1))(assert (> x 1))")
	g, _ = prep.Goal(b, roots)
	if v := decided(t, g); v.Sat || len(v.Proof.Failed) != 2 || len(v.Proof.Lemmas) != 1 {
		t.Errorf("P17.1: x < 1 and x > 1: %v", v)
	}
	b, roots = bankOf(t, "(declare-const p Bool)(assert p)")
	if ok, m, p, err := decide.Terms(b, roots); !ok || err != api.OK || len(p.Steps) > 0 || len(m.Tables) != 1 || len(m.Tables[0].Rows) != 0 || m.Tables[0].Else != (api.Value{N: 1}) {
		t.Errorf("P17.4: p: %v, %v, %v, %d", ok, m, p, err)
	}
	b, roots = bankOf(t, "(declare-sort U 0)(declare-fun f (U) U)(declare-const x U)(assert (= (f x) x))(assert (not (= (f (f x)) x)))")
	if ok, m, _, err := decide.Terms(b, roots); ok || err != api.OK || len(m.Tables) != 0 {
		t.Errorf("P17.4: f(x) = x, f(f(x)) /= x: %v, %v, %d", ok, m, err)
	}
	b, _ = bankOf(t, "(declare-sort U 0)(declare-fun f (U Real) U)(declare-fun g (U) Bool)(declare-const x Real)")
	want := api.Model{Tables: []api.Table{{Else: api.Value{Sort: 2}}, {}, {Else: api.Value{Sort: 1, R: "0"}}}}
	if ok, m, _, err := decide.Terms(b, nil); !ok || err != api.OK || !reflect.DeepEqual(m, want) {
		t.Errorf("P17.4: no roots: %v, %v, %d", ok, m, err)
	}
}

// TestVerdicts: what can be true together, and what cannot, where that is known.
func TestVerdicts(t *testing.T) {
	names := func(prefix string, n int) string {
		var list []string
		for i := range n {
			list = append(list, prefix+strconv.Itoa(i))
		}
		return strings.Join(list, " ")
	}
	constants := func(sort, list string) string {
		var text string
		for _, name := range strings.Fields(list) {
			text += "(declare-const " + name + " " + sort + ")"
		}
		return text
	}
	u := "(declare-sort U 0)"
	for _, c := range []struct {
		text string
		sat  bool
	}{
		{"", true}, {"(assert true)", true}, {"(assert false)", false}, {"(assert (not false))", true},
		{"(declare-const p Bool)(assert p)(assert (not p))", false},
		{constants("Bool", "p q r") + "(assert (distinct p q r))", false},
		{constants("Bool", "p q r") + "(declare-fun g (Bool) Real)(assert (distinct (g p) (g q)))(assert (distinct (g q) (g r)))(assert (distinct (g p) (g r)))", false},
		{constants("Bool", "p q") + "(declare-fun g (Bool) Real)(assert (distinct (g p) (g q)))", true},
		{constants("Bool", "p") + "(declare-fun g (Bool) Bool)(assert (g (g p)))(assert (g (not (g p))))(assert (not (g p)))", false},
		{constants("Real", "x y z") + "(assert (< x y))(assert (< y z))(assert (< z x))", false},
		{constants("Real", "x y z") + "(assert (<= x y))(assert (<= y z))(assert (<= z x))(assert (distinct x z))", false},
		{constants("Real", "x y z") + "(assert (<= x y z x))", true},
		{constants("Real", "x") + "(assert (< 0 x (/ 1 1000000000000000000000)))", true},
		{constants("Real", "x") + "(assert (= (* 3 x) 1))(assert (= (* 7 x) 2))", false},
		{constants("Real", "x y") + "(declare-fun f (Real) Real)(assert (= (f (+ x 1)) 0))(assert (= (f (- y 2)) 1))(assert (= y (+ x 3)))", false},
		{constants("Real", "x y") + "(declare-fun f (Real) Real)(assert (= (f (+ x 1)) 0))(assert (= (f (- y 2)) 1))(assert (= y (+ x 4)))", true},
		{constants("Real", "x y") + "(assert (or (= x 1) (= x 2)))(assert (= y (ite (= x 1) 5 (ite (= x 2) 5 6))))(assert (not (= y 5)))", false},
		{u + constants("U", "a b") + "(declare-fun f (U) U)(assert (= (f (f (f a))) a))(assert (= (f (f (f (f (f a))))) a))(assert (distinct (f a) a))", false},
		{u + constants("U", names("c", 40)) + "(assert (distinct " + names("c", 40) + "))", true},
		{constants("Real", names("x", 40)) + "(assert (distinct " + names("x", 40) + "))(assert (<= 0 " + names("x", 40) + " 1))", true},
		{constants("Real", names("x", 12)) + "(assert (distinct " + names("x", 12) + "))(assert (= x3 x7))", false},
		{u + constants("U", names("a", 6)) + constants("U", names("b", 5)) + "(assert (distinct " + names("a", 6) + "))" + strings.Join(each(6, func(i int) string {
			return "(assert (or " + strings.Join(each(5, func(j int) string { return "(= a" + strconv.Itoa(i) + " b" + strconv.Itoa(j) + ")" }), " ") + "))"
		}), ""), false},
	} {
		b, roots := bankOf(t, c.text)
		g, _ := prep.Goal(b, roots)
		if v := decided(t, g); v.Sat != c.sat {
			t.Errorf("P0.12, P17.5: %s: %v", c.text, v.Sat)
		}
		if ok, _, _, err := decide.Terms(b, roots); ok != c.sat || err != api.OK {
			t.Errorf("P17.4: %s: %v, %d", c.text, ok, err)
		}
	}
}

func each(n int, of func(i int) string) []string {
	var list []string
	for i := range n {
		list = append(list, of(i))
	}
	return list
}

// TestByHand: goals that no terms have: atoms twice, constraints without variables, below as well as at most, picks that nothing is said of.
func TestByHand(t *testing.T) {
	head := []api.GNode{{Kind: api.NodeTrue, Fun: -1, Term: -1}, {Kind: api.NodeFalse, Fun: -1, Term: -1}}
	x := api.GNode{Kind: api.NodePick, Sort: 1, Fun: -1}
	con := func(op int, k string, m ...api.Mono) api.Atom {
		return api.Atom{Kind: api.AtomCon, Con: api.Con{Op: op, F: api.Lin{M: m, K: k}}}
	}
	up, down := api.Mono{V: 2, C: "2"}, api.Mono{V: 2, C: "-3"}
	atoms := []api.Atom{con(api.ConLe, "-2", up), con(api.ConLt, "-2", up), con(api.ConLe, "3", down), con(api.ConLt, "3", down), con(api.ConLe, "-2", up), con(api.ConLe, "1"), con(api.ConLt, "-1"), con(api.ConLe, "-4", up)}
	for held := range 1 << 8 {
		g := api.Goal{Nodes: append(slices.Clone(head), x), Atoms: atoms}
		for i := range atoms {
			g.Forms = append(g.Forms, api.Form{Op: api.FormAtom, Atom: i}, api.Form{Op: api.FormNot, Args: []int{2 * i}})
			g.Roots = append(g.Roots, 2*i+held>>i&1)
		}
		// x is at most 1, below 1, at least 1, above 1, at most 1, never, always, at most 2.
		value := func(below, is, within bool) int {
			truths := []bool{below || is, below, !below, !below && !is, below || is, false, true, within}
			n := 0
			for i, so := range truths {
				if !so {
					n += 1 << i
				}
			}
			return n
		}
		want := slices.Contains([]int{value(true, false, true), value(false, true, true), value(false, false, true), value(false, false, false)}, held)
		if v := decided(t, g); v.Sat != want {
			t.Errorf("P17.1: %b: %v, want %v", held, v.Sat, want)
		}
	}
}

func TestRandom(t *testing.T) {
	sat, unsat := 0, 0
	for seed := range int64(700) {
		m := newMaker(seed)
		b, roots := m.roots(1+m.rng.Intn(6), 2+m.rng.Intn(2))
		g, _ := prep.Goal(b, roots)
		v := decided(t, g)
		ok, model, p, err := decide.Terms(b, roots)
		if err != api.OK || ok != v.Sat {
			t.Fatalf("P17.4: seed %d: %v, %d, Goal says %v", seed, ok, err, v.Sat)
		}
		if ok {
			sat++
			structure(t, b, roots, model)
			built, err := decide.Model(b, g, v.Values)
			values, _ := prep.Values(b, g, built)
			if err != api.OK || !reflect.DeepEqual(values, v.Values) {
				t.Fatalf("P17.3: seed %d: %d, %v, want %v", seed, err, values, v.Values)
			}
			continue
		}
		unsat++
		if err, at := proof.Check(g, p); err != api.OK || len(model.Tables) > 0 {
			t.Fatalf("P17.4: seed %d: the proof: %d, %d", seed, err, at)
		}
	}
	if sat < 100 || unsat < 100 {
		t.Errorf("too few of one kind: %d, %d", sat, unsat)
	}
}

// structure looks over that a structure is canonical, and all roots are true in it.
func structure(t *testing.T, b api.Bank, roots []int, m api.Model) {
	t.Helper()
	if at, err := world.Holds(b, m, roots); at != -1 || err != api.OK {
		t.Fatalf("P0.11, P17.4: %v of %v: %d, %d", m, b, at, err)
	}
	if tidy, _ := world.Tidy(b, m); !reflect.DeepEqual(tidy, m) {
		t.Fatalf("P17.4: %v is not canonical", m)
	}
}

func TestRefusals(t *testing.T) {
	if v, err := decide.Goal(api.Goal{}); err != api.ErrGoal || !reflect.DeepEqual(v, api.Verdict{}) {
		t.Errorf("P17.1: no goal: %v, %d", v, err)
	}
	b, roots := bankOf(t, "(declare-const x Real)(assert (< x 1))")
	var many strings.Builder
	many.WriteString("(declare-sort U 0)")
	for i := range 450 {
		many.WriteString("(declare-const x" + strconv.Itoa(i) + " U)")
	}
	many.WriteString("(assert (distinct " + strings.Join(each(450, func(i int) string { return "x" + strconv.Itoa(i) }), " ") + "))")
	tooMany, root := bankOf(t, many.String())
	for _, c := range []struct {
		why   string
		b     api.Bank
		roots []int
		err   api.Errno
	}{
		{"no bank", api.Bank{Terms: []api.Term{{Op: 99}}}, []int{7}, api.ErrOp},
		{"no term", b, []int{0, 3}, api.ErrIndex},
		{"no term below", b, []int{-1}, api.ErrIndex},
		{"no Bool", b, []int{roots[0], 0}, api.ErrRoot},
		{"too many atoms", tooMany, root, api.ErrLimit},
	} {
		ok, m, p, err := decide.Terms(c.b, c.roots)
		if ok || err != c.err || len(m.Tables) > 0 || !reflect.DeepEqual(p, api.Proof{}) {
			t.Errorf("P17.4: %s: %v, %v, %v, %d, want %d", c.why, ok, m, p, err, c.err)
		}
	}
}
