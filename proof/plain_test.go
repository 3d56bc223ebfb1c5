package proof_test

import (
	"slices"
	"testing"

	"arbiter/api"
	"arbiter/cnf"
	"arbiter/lin"
	"arbiter/num"
	"arbiter/prep"
	"arbiter/proof"
	"arbiter/rup"
)

// This file says by the words of the chapters, without regard to time, when a lemma follows, and when a proof is one.

func isLiteral(g api.Goal, lit int) bool {
	return lit != 0 && lit >= -len(g.Atoms) && lit <= len(g.Atoms)
}

func atomOf(g api.Goal, lit int) api.Atom {
	return g.Atoms[max(lit, -lit)-1]
}

// factOf tells what a literal of a constraint says: the constraint, or its opposite.
func factOf(g api.Goal, lit int) api.Con {
	con := atomOf(g, lit).Con
	if lit > 0 {
		return con
	}
	opposite, _ := lin.Opposite(con)
	return opposite[0]
}

func sameArgs(n, m api.GNode, same func(x, y int) bool) bool {
	return slices.EqualFunc(n.Args, m.Args, same)
}

// plainLemma is a lemma, looked over.
type plainLemma struct {
	g     api.Goal
	held  []int
	class []int // by node: the least one that is the same, at the step that is looked at
}

// firstFault tells the first step of a lemma that does not follow, or -1.
func firstFault(g api.Goal, l api.Lemma) int {
	p := &plainLemma{g: g}
	for _, lit := range l.Lits {
		if !isLiteral(g, lit) {
			return 0
		}
		p.held = append(p.held, -lit)
	}
	for i, d := range l.Derivs {
		p.close(l.Derivs[:i])
		if !p.follows(l.Derivs, i, d) {
			return i
		}
	}
	if last := len(l.Derivs) - 1; last < 0 || l.Derivs[last].Kind < api.DerivClash {
		return len(l.Derivs)
	}
	return -1
}

// close works the congruence out, from nothing.
func (p *plainLemma) close(earlier []api.Deriv) {
	p.class = make([]int, len(p.g.Nodes))
	for i := range p.class {
		p.class[i] = i
	}
	for _, lit := range p.held {
		switch atom := atomOf(p.g, lit); {
		case atom.Kind == api.AtomTrue && lit > 0:
			p.join(atom.L, 0)
		case atom.Kind == api.AtomTrue:
			p.join(atom.L, 1)
		case atom.Kind == api.AtomEq && lit > 0:
			p.join(atom.L, atom.R)
		}
	}
	for _, d := range earlier {
		p.join(d.A, d.B)
	}
	for more := true; more; {
		more = false
		for i, n := range p.g.Nodes {
			for j, m := range p.g.Nodes[:i] {
				if n.Kind == api.NodeApp && m.Kind == api.NodeApp && n.Fun == m.Fun && !p.same(i, j) && sameArgs(n, m, p.same) {
					p.join(i, j)
					more = true
				}
			}
		}
	}
}

func (p *plainLemma) same(x, y int) bool {
	return p.class[x] == p.class[y]
}

func (p *plainLemma) join(x, y int) {
	from, to := p.class[x], p.class[y]
	for i, c := range p.class {
		if c == from {
			p.class[i] = to
		}
	}
}

func (p *plainLemma) isNode(n int) bool {
	return n >= 0 && n < len(p.g.Nodes)
}

func (p *plainLemma) follows(all []api.Deriv, number int, d api.Deriv) bool {
	if !p.isNode(d.A) || !p.isNode(d.B) {
		return false
	}
	last := number == len(all)-1
	switch d.Kind {
	case api.DerivCong:
		return len(d.Up) == 0 && len(d.Down) == 0 && p.same(d.A, d.B)
	case api.DerivLin:
		return p.g.Nodes[d.A].Sort == api.SortReal && p.g.Nodes[d.B].Sort == api.SortReal &&
			p.atMost(all[:number], d.Up, d.A, d.B) && p.atMost(all[:number], d.Down, d.B, d.A)
	case api.DerivClash:
		return last && len(d.Up) == 0 && len(d.Down) == 0 && p.same(d.A, d.B) && p.heldApart(d.A, d.B)
	case api.DerivZero:
		cons, mult, ok := p.facts(all[:number], d.Up)
		if !last || d.A != 0 || d.B != 0 || len(d.Down) != 0 || !ok {
			return false
		}
		no, err := lin.Farkas(cons, mult)
		return err == api.OK && no
	}
	return false
}

func (p *plainLemma) heldApart(a, b int) bool {
	if a+b == 1 && a*b == 0 {
		return true
	}
	return slices.ContainsFunc(p.held, func(lit int) bool {
		atom := atomOf(p.g, lit)
		return lit < 0 && atom.Kind == api.AtomEq && (atom.L == a && atom.R == b || atom.L == b && atom.R == a)
	})
}

// atMost tells whether facts add up to a - b + k, with k not below 0.
func (p *plainLemma) atMost(earlier []api.Deriv, list []api.Coef, a, b int) bool {
	cons, mult, ok := p.facts(earlier, list)
	sum, err := lin.Combine(cons, mult)
	if !ok || err != api.OK {
		return false
	}
	want, _ := lin.Form([]api.Mono{{V: a, C: "1"}, {V: b, C: "-1"}}, sum.F.K)
	return sameForm(sum.F, want) && sum.F.K[0] != '-'
}

func sameForm(f, g api.Lin) bool {
	return slices.Equal(f.M, g.M) && f.K == g.K
}

// facts tells the constraints that coefficients name, how often each is taken, and whether each is a fact.
func (p *plainLemma) facts(earlier []api.Deriv, list []api.Coef) (cons []api.Con, mult []string, ok bool) {
	for _, c := range list {
		if canon, err := num.Canon(c.C); err != api.OK || canon != c.C {
			return nil, nil, false
		}
		var fact api.Con
		switch {
		case c.Kind == api.CoefLit && slices.Contains(p.held, c.Ref) && atomOf(p.g, c.Ref).Kind == api.AtomCon && c.C != "0" && c.C[0] != '-':
			fact = factOf(p.g, c.Ref)
		case c.Kind == api.CoefEq && c.Ref >= 0 && c.Ref < len(earlier) && p.g.Nodes[earlier[c.Ref].A].Sort == api.SortReal && p.g.Nodes[earlier[c.Ref].B].Sort == api.SortReal:
			d := earlier[c.Ref]
			fact.F, _ = lin.Form([]api.Mono{{V: d.A, C: "1"}, {V: d.B, C: "-1"}}, "0")
			fact.Op = api.ConEq
		case c.Kind == api.CoefDef && p.isNode(c.Ref) && p.g.Nodes[c.Ref].Kind == api.NodeLin:
			own, _ := lin.Form([]api.Mono{{V: c.Ref, C: "1"}}, "0")
			opposite, _ := lin.Scale(p.g.Nodes[c.Ref].Lin, "-1")
			fact.F, _ = lin.Add(own, opposite)
			fact.Op = api.ConEq
		default:
			return nil, nil, false
		}
		cons, mult = append(cons, fact), append(mult, c.C)
	}
	return cons, mult, true
}

// plainCheck answers what Check does.
func plainCheck(g api.Goal, p api.Proof) (api.Errno, int) {
	if prep.Check(g) != api.OK {
		return api.ErrGoal, 0
	}
	c, _, _ := cnf.Clauses(g)
	for i, lit := range p.Failed {
		if !slices.Contains(c.Tops, lit) {
			return api.ErrProof, i
		}
	}
	for i, l := range p.Lemmas {
		if firstFault(g, l) >= 0 {
			return api.ErrLemma, i
		}
	}
	for i, s := range p.Steps {
		switch {
		case s.Lemma == -1 && clashes(c, s.Lits):
		case s.Lemma >= 0 && s.Lemma < len(p.Lemmas) && slices.Equal(s.Lits, p.Lemmas[s.Lemma].Lits):
		default:
			return api.ErrStep, i
		}
		c.Clauses = append(c.Clauses, s.Lits)
	}
	var clause []int
	for _, lit := range p.Failed {
		clause = append(clause, -lit)
	}
	if !clashes(c, clause) {
		return api.ErrStep, len(p.Steps)
	}
	return api.OK, 0
}

// clashes tells whether unit propagation from the opposites of literals clashes.
func clashes(c api.Cnf, lits []int) bool {
	var opposites []int
	for _, lit := range lits {
		opposites = append(opposites, -lit)
	}
	_, clash, err := rup.Unit(c, opposites)
	return err == api.OK && clash
}

// looksOver holds Lemma and Check against this file's words.
func looksOver(t *testing.T, g api.Goal, p api.Proof) {
	t.Helper()
	wantErr, want := plainCheck(g, p)
	if err, at := proof.Check(g, p); err != wantErr || at != want {
		t.Errorf("P16.2: Check(%v, %v) = %d, %d, want %d, %d", g, p, err, at, wantErr, want)
	}
	for _, l := range p.Lemmas {
		wantErr, want := api.OK, 0
		if fault := firstFault(g, l); fault >= 0 {
			wantErr, want = api.ErrLemma, fault
		}
		if err, at := proof.Lemma(g, l); err != wantErr || at != want {
			t.Errorf("P16.1: Lemma(%v, %v) = %d, %d, want %d, %d", g, l, err, at, wantErr, want)
		}
	}
}
