package proof_test

import (
	"math/rand"
	"slices"
	"strings"
	"testing"

	"arbiter/api"
	"arbiter/decide"
	"arbiter/prep"
	"arbiter/proof"
	"arbiter/script"
)

const (
	signature = "(declare-sort U 0)(declare-fun f (Real) Real)(declare-fun g (U Real) U)(declare-fun h (Bool) U)(declare-const x Real)(declare-const y Real)(declare-const z Real)(declare-const u U)(declare-const v U)(declare-const w U)(declare-const p Bool)(declare-const q Bool)"
	// Each line: terms that cannot be true together.
	clashing = `(< x 1) (> x 1)
(<= x y) (<= y x) (distinct (f x) (f y))
(= u v) (or (= v w) (= u w)) (distinct u w)
(<= x y z x) (distinct (g u x) (g u z))
(= x (+ y 1)) (= (f y) 3) (= y (- x 1)) (or (< (f (- x 1)) 3) (< (+ (f y) 1) 4) p) (not p)
(distinct (h p) (h q) (h (not p)))
(= (ite p x y) z) (distinct x z) (distinct y z)
(xor p q) (= p q)
(= (g u 1) v) (= (g v x) w) (= u v) (= (+ x x) 2) (distinct w u)
(or (= u v) (< x y)) (or (= u v) (< y x)) (=> (= u v) (= (f x) (+ (f y) 1))) (= x y)
(=> p (< x 0)) (=> (not p) (< x (- 1))) (> (* 3 x) (- 2 2))
(= (h (< x y)) u) (= (h (< y x)) v) (= x y) (distinct u v)
(let ((m (ite (< x y) y x))) (or (< m x) (< m y)))
false`
)

// goalOf tells the goal of terms.
func goalOf(t testing.TB, terms string) api.Goal {
	s, err, at := script.Parse(signature + "(check-sat-assuming (" + terms + "))")
	if err != api.OK {
		t.Fatalf("%s: %d at %d", terms, err, at)
	}
	g, _ := prep.Goal(s.Bank, s.Cmds[len(s.Cmds)-1].Terms)
	return g
}

func TestClashing(t *testing.T) {
	for _, terms := range strings.Split(clashing, "\n") {
		g := goalOf(t, terms)
		v, err := decide.Goal(g)
		if err != api.OK || v.Sat {
			t.Fatalf("P17.1: %s: %v, %d", terms, v.Sat, err)
		}
		looksOver(t, g, v.Proof)
		if err, at := proof.Check(g, v.Proof); err != api.OK || at != 0 {
			t.Errorf("P16.2: %s: %d, %d", terms, err, at)
		}
		for i := range g.Roots {
			fewer(t, g, v.Proof, i)
		}
	}
}

// fewer: where the other roots can be true together, no proof that they cannot is one.
func fewer(t *testing.T, g api.Goal, p api.Proof, without int) {
	part := g
	part.Roots = slices.Delete(slices.Clone(g.Roots), without, without+1)
	v, _ := decide.Goal(part)
	for cut := range len(p.Failed) + 1 {
		q := p
		if cut < len(p.Failed) {
			q.Failed = slices.Delete(slices.Clone(p.Failed), cut, cut+1)
		}
		looksOver(t, part, q)
		if err, _ := proof.Check(part, q); err == api.OK && v.Sat {
			t.Errorf("P16.3: %v is a proof of what can be true: %v", q, part)
		}
	}
}

func chosen[T any](r *rand.Rand, list []T) *T {
	if len(list) == 0 {
		return new(T)
	}
	return &list[r.Intn(len(list))]
}

func nudge(r *rand.Rand, n *int) { *n += []int{1, -1, 2, -2 * *n}[r.Intn(4)] }

// copied tells a proof in memory of its own.
func copied(p api.Proof) api.Proof {
	q := api.Proof{Failed: slices.Clone(p.Failed)}
	for _, l := range p.Lemmas {
		m := api.Lemma{Lits: slices.Clone(l.Lits)}
		for _, d := range l.Derivs {
			d.Up, d.Down = slices.Clone(d.Up), slices.Clone(d.Down)
			m.Derivs = append(m.Derivs, d)
		}
		q.Lemmas = append(q.Lemmas, m)
	}
	for _, s := range p.Steps {
		q.Steps = append(q.Steps, api.Step{Lemma: s.Lemma, Lits: slices.Clone(s.Lits)})
	}
	return q
}

// change changes something in a proof.
func change(r *rand.Rand, p *api.Proof) {
	l, s := chosen(r, p.Lemmas), chosen(r, p.Steps)
	d := chosen(r, l.Derivs)
	switch r.Intn(14) {
	case 0:
		nudge(r, chosen(r, l.Lits))
	case 1:
		l.Lits = slices.Insert(l.Lits, 0, []int{1, -1, 2, -2, 3, -3}[r.Intn(6)])
	case 2:
		if len(l.Lits) > 0 {
			l.Lits = l.Lits[1:]
		}
	case 3:
		nudge(r, &d.A)
	case 4:
		nudge(r, &d.B)
	case 5:
		d.A, d.B = d.B, d.A
	case 6:
		d.Up, d.Down = d.Down, d.Up
	case 7:
		d.Kind = r.Intn(6)
	case 8:
		c := chosen(r, slices.Concat(d.Up, d.Down))
		nudge(r, &c.Ref)
		if len(d.Up) > 0 {
			d.Up[r.Intn(len(d.Up))] = *c
		}
	case 9:
		chosen(r, d.Up).C = []string{"1", "2", "0", "-1", "1/2", "x"}[r.Intn(6)]
	case 10:
		if len(l.Derivs) > 1 {
			l.Derivs = slices.Delete(l.Derivs, 0, 1)
		}
	case 11:
		nudge(r, chosen(r, s.Lits))
	case 12:
		nudge(r, &s.Lemma)
	case 13:
		if len(p.Steps) > 0 {
			i := r.Intn(len(p.Steps))
			p.Steps = slices.Delete(p.Steps, i, i+1)
		}
	}
}

func TestChanged(t *testing.T) {
	r := rand.New(rand.NewSource(161))
	for _, terms := range strings.Split(clashing, "\n") {
		g := goalOf(t, terms)
		v, _ := decide.Goal(g)
		for range 150 {
			p := copied(v.Proof)
			for range 1 + r.Intn(2) {
				change(r, &p)
			}
			looksOver(t, g, p)
		}
	}
}

// TestApart: what is looked over twice, or between others, is answered as before, and what is handed in stays as it was.
func TestApart(t *testing.T) {
	g, p := example(), shown()
	before, goalBefore := copied(p), example()
	for range 3 {
		for _, c := range slices.Concat(goodLemmas(), badLemmas()) {
			proof.Lemma(g, api.Lemma{Lits: c.lits, Derivs: c.steps})
		}
		if err, at := proof.Check(g, p); err != api.OK || at != 0 {
			t.Errorf("P0.5: Check = %d, %d", err, at)
		}
	}
	if !alike(p, before) || !sameGoal(g, goalBefore) {
		t.Error("P0.4: what was handed in is changed")
	}
	text := "((lemma (1 2) (lin 1 2 ((lit 1 1)) ((lit 2 1)))) (step 0 (1 2)) (failed (1 2)))"
	one, _, _ := proof.Read(text)
	two, _, _ := proof.Read(text)
	d := &one.Lemmas[0].Derivs[0]
	one.Failed = append(one.Failed[:1], 9)
	one.Steps[0].Lits = append(one.Steps[0].Lits[:1], 9)
	one.Lemmas[0].Lits = append(one.Lemmas[0].Lits[:1], 9)
	d.Up = append(d.Up[:0], lit(9, "9"))
	if d.Down[0].Ref != 2 || two.Failed[1] != 2 || two.Steps[0].Lits[1] != 2 || two.Lemmas[0].Lits[1] != 2 || two.Lemmas[0].Derivs[0].Up[0].Ref != 1 {
		t.Errorf("P0.4: lists share memory: %v, %v", one, two)
	}
}

func sameGoal(g, h api.Goal) bool {
	return slices.EqualFunc(g.Nodes, h.Nodes, func(a, b api.GNode) bool {
		return a.Kind == b.Kind && slices.Equal(a.Args, b.Args) && slices.Equal(a.Lin.M, b.Lin.M)
	}) &&
		slices.EqualFunc(g.Atoms, h.Atoms, func(a, b api.Atom) bool { return a.Kind == b.Kind && slices.Equal(a.Con.F.M, b.Con.F.M) }) &&
		slices.Equal(g.Roots, h.Roots)
}

// TestLarge: deep texts, long lists and many steps are looked over in one go.
func TestLarge(t *testing.T) {
	for _, deep := range []string{"(", "((failed (", "((lemma () (zero ((lit 1 (- "} {
		if _, err, at := proof.Read(deep + strings.Repeat("(", 200000)); err != api.ErrOpen || at != 0 {
			t.Errorf("P0.7: %s..: %d, %d", deep, err, at)
		}
	}
	text := "((failed (" + strings.Repeat("(", 100000) + strings.Repeat(")", 100000) + ")))"
	if _, err, at := proof.Read(text); err != api.ErrSyntax || at != 10 {
		t.Errorf("P0.7: %d, %d", err, at)
	}
	g, p := example(), shown()
	for range 20000 {
		p.Lemmas = append(p.Lemmas, p.Lemmas[0])
		p.Steps = append(p.Steps, api.Step{Lemma: len(p.Lemmas) - 1, Lits: p.Lemmas[0].Lits})
	}
	l := p.Lemmas[0]
	for range 2000 {
		l.Derivs = slices.Insert(l.Derivs, 1, between(3, 2, facts(eq(0, "-1")), facts(eq(0, "1"))))
	}
	p.Lemmas[5] = l
	if err, at := proof.Check(g, p); err != api.OK || at != 0 {
		t.Errorf("P16.2: %d, %d", err, at)
	}
	written, err := proof.Show(p)
	if got, _, _ := proof.Read(written); err != api.OK || !alike(got, p) {
		t.Errorf("P16.6: a long proof: %d", err)
	}
	p.Lemmas[5].Derivs[1500].Up = nil
	if err, at := proof.Lemma(g, p.Lemmas[5]); err != api.ErrLemma || at != 1500 {
		t.Errorf("P16.1: %d, %d", err, at)
	}
}
