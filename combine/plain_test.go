package combine_test

import (
	"slices"
	"testing"

	"arbiter/api"
	"arbiter/lin"
	"arbiter/num"
)

// This file says by the chapter's words, without regard to time, what loose values are, when a literal holds under them, and when a lemma follows.

func isLiteral(g api.Goal, lit int) bool {
	return lit != 0 && lit >= -len(g.Atoms) && lit <= len(g.Atoms)
}

func atomOf(g api.Goal, lit int) api.Atom {
	return g.Atoms[max(lit, -lit)-1]
}

// isValue tells whether a value is one of a sort, loosely.
func isValue(v api.Value, sort int) bool {
	if v.Sort != sort {
		return false
	}
	if sort == api.SortReal {
		canon, err := num.Canon(v.R)
		return err == api.OK && canon == v.R && v.N == 0
	}
	return v.R == "" && v.N >= 0
}

// reals tells what the nodes of sort Real are worth, by node; others are worth 0.
func reals(values []api.Value) []string {
	at := make([]string, len(values))
	for i, v := range values {
		at[i] = "0"
		if v.Sort == api.SortReal {
			at[i] = v.R
		}
	}
	return at
}

// looseFault tells what keeps values from being loose values of a goal's nodes, or nothing.
func looseFault(g api.Goal, values []api.Value) string {
	if len(values) != len(g.Nodes) {
		return "there are not as many values as nodes"
	}
	for i, n := range g.Nodes {
		if !isValue(values[i], n.Sort) {
			return "a value is none of its node's sort"
		}
	}
	if values[0].N != 1 || values[1].N != 0 {
		return "the node 0 is not true, or the node 1 not false"
	}
	at := reals(values)
	for i, n := range g.Nodes {
		if n.Kind != api.NodeLin {
			continue
		}
		if v, err := lin.Value(n.Lin, at); err != api.OK || v != values[i].R {
			return "a form is not worth what it says"
		}
	}
	for i, n := range g.Nodes {
		for j, m := range g.Nodes[:i] {
			if n.Kind == api.NodeApp && m.Kind == api.NodeApp && n.Fun == m.Fun && sameArgs(n, m, func(x, y int) bool { return values[x] == values[y] }) && values[i] != values[j] {
				return "a function is worth two things at the same arguments"
			}
		}
	}
	return ""
}

func sameArgs(n, m api.GNode, same func(x, y int) bool) bool {
	if len(n.Args) != len(m.Args) {
		return false
	}
	for k, arg := range n.Args {
		if !same(arg, m.Args[k]) {
			return false
		}
	}
	return true
}

// plainHolds tells whether a literal holds under loose values.
func plainHolds(g api.Goal, values []api.Value, lit int) bool {
	atom := atomOf(g, lit)
	switch atom.Kind {
	case api.AtomTrue:
		return lit > 0 && values[atom.L].N == 1 || lit < 0 && values[atom.L].N == 0
	case api.AtomEq:
		return (values[atom.L] == values[atom.R]) == (lit > 0)
	}
	ok, err := lin.Holds(factOf(g, lit), reals(values))
	return err == api.OK && ok
}

// factOf tells what a literal of a constraint says: the constraint, or its opposite.
func factOf(g api.Goal, lit int) api.Con {
	con := atomOf(g, lit).Con
	if lit > 0 {
		return con
	}
	opposite, _ := lin.Opposite(con)
	return opposite[0]
}

// plainLemma is a lemma, looked over.
type plainLemma struct {
	g     api.Goal
	held  []int
	class []int // by node: the least one that is the same, at the step that is looked at
}

// firstFault tells the first step of a lemma that does not follow, or -1.
func firstFault(g api.Goal, l api.Lemma) int {
	p := &plainLemma{g: g}
	for _, lit := range l.Lits {
		if !isLiteral(g, lit) {
			return 0
		}
		p.held = append(p.held, -lit)
	}
	for i, d := range l.Derivs {
		p.close(l.Derivs[:i])
		if !p.follows(l.Derivs, i, d) {
			return i
		}
	}
	if last := len(l.Derivs) - 1; last < 0 || l.Derivs[last].Kind < api.DerivClash {
		return len(l.Derivs)
	}
	return -1
}

// close works the congruence out, from nothing.
func (p *plainLemma) close(earlier []api.Deriv) {
	p.class = make([]int, len(p.g.Nodes))
	for i := range p.class {
		p.class[i] = i
	}
	for _, lit := range p.held {
		switch atom := atomOf(p.g, lit); {
		case atom.Kind == api.AtomTrue && lit > 0:
			p.join(atom.L, 0)
		case atom.Kind == api.AtomTrue:
			p.join(atom.L, 1)
		case atom.Kind == api.AtomEq && lit > 0:
			p.join(atom.L, atom.R)
		}
	}
	for _, d := range earlier {
		p.join(d.A, d.B)
	}
	for more := true; more; {
		more = false
		for i, n := range p.g.Nodes {
			for j, m := range p.g.Nodes[:i] {
				if n.Kind == api.NodeApp && m.Kind == api.NodeApp && n.Fun == m.Fun && !p.same(i, j) && sameArgs(n, m, p.same) {
					p.join(i, j)
					more = true
				}
			}
		}
	}
}

func (p *plainLemma) same(x, y int) bool {
	return p.class[x] == p.class[y]
}

func (p *plainLemma) join(x, y int) {
	from, to := p.class[x], p.class[y]
	for i, c := range p.class {
		if c == from {
			p.class[i] = to
		}
	}
}

func (p *plainLemma) isNode(n int) bool {
	return n >= 0 && n < len(p.g.Nodes)
}

func (p *plainLemma) follows(all []api.Deriv, number int, d api.Deriv) bool {
	if !p.isNode(d.A) || !p.isNode(d.B) {
		return false
	}
	last := number == len(all)-1
	switch d.Kind {
	case api.DerivCong:
		return len(d.Up) == 0 && len(d.Down) == 0 && p.same(d.A, d.B)
	case api.DerivLin:
		return p.g.Nodes[d.A].Sort == api.SortReal && p.g.Nodes[d.B].Sort == api.SortReal &&
			p.atMost(all[:number], d.Up, d.A, d.B) && p.atMost(all[:number], d.Down, d.B, d.A)
	case api.DerivClash:
		return last && len(d.Up) == 0 && len(d.Down) == 0 && p.same(d.A, d.B) && p.heldApart(d.A, d.B)
	case api.DerivZero:
		cons, mult, ok := p.facts(all[:number], d.Up)
		if !last || d.A != 0 || d.B != 0 || len(d.Down) != 0 || !ok {
			return false
		}
		no, err := lin.Farkas(cons, mult)
		return err == api.OK && no
	}
	return false
}

func (p *plainLemma) heldApart(a, b int) bool {
	if a+b == 1 && a*b == 0 {
		return true
	}
	return slices.ContainsFunc(p.held, func(lit int) bool {
		atom := atomOf(p.g, lit)
		return lit < 0 && atom.Kind == api.AtomEq && (atom.L == a && atom.R == b || atom.L == b && atom.R == a)
	})
}

// atMost tells whether facts add up to a - b + k, with k not below 0.
func (p *plainLemma) atMost(earlier []api.Deriv, list []api.Coef, a, b int) bool {
	cons, mult, ok := p.facts(earlier, list)
	sum, err := lin.Combine(cons, mult)
	if !ok || err != api.OK {
		return false
	}
	want, _ := lin.Form([]api.Mono{{V: a, C: "1"}, {V: b, C: "-1"}}, sum.F.K)
	return sameForm(sum.F, want) && sum.F.K[0] != '-'
}

func sameForm(f, g api.Lin) bool {
	return slices.Equal(f.M, g.M) && f.K == g.K
}

// facts tells the constraints that coefficients name, how often each is taken, and whether each is a fact.
func (p *plainLemma) facts(earlier []api.Deriv, list []api.Coef) (cons []api.Con, mult []string, ok bool) {
	for _, c := range list {
		if canon, err := num.Canon(c.C); err != api.OK || canon != c.C {
			return nil, nil, false
		}
		var fact api.Con
		switch {
		case c.Kind == api.CoefLit && slices.Contains(p.held, c.Ref) && atomOf(p.g, c.Ref).Kind == api.AtomCon && c.C != "0" && c.C[0] != '-':
			fact = factOf(p.g, c.Ref)
		case c.Kind == api.CoefEq && c.Ref >= 0 && c.Ref < len(earlier) && p.g.Nodes[earlier[c.Ref].A].Sort == api.SortReal && p.g.Nodes[earlier[c.Ref].B].Sort == api.SortReal:
			d := earlier[c.Ref]
			fact.F, _ = lin.Form([]api.Mono{{V: d.A, C: "1"}, {V: d.B, C: "-1"}}, "0")
			fact.Op = api.ConEq
		case c.Kind == api.CoefDef && p.isNode(c.Ref) && p.g.Nodes[c.Ref].Kind == api.NodeLin:
			own, _ := lin.Form([]api.Mono{{V: c.Ref, C: "1"}}, "0")
			opposite, _ := lin.Scale(p.g.Nodes[c.Ref].Lin, "-1")
			fact.F, _ = lin.Add(own, opposite)
			fact.Op = api.ConEq
		default:
			return nil, nil, false
		}
		cons, mult = append(cons, fact), append(mult, c.C)
	}
	return cons, mult, true
}

// TestPlain: the lemmas of the chapter's examples follow by this file's words; with a part of them changed they do not.
func TestPlain(t *testing.T) {
	lit := func(ref int, c string) api.Coef { return api.Coef{Kind: api.CoefLit, Ref: ref, C: c} }
	def := func(c string) api.Coef { return api.Coef{Kind: api.CoefDef, Ref: 6, C: c} }
	same := api.Deriv{Kind: api.DerivLin, A: 2, B: 3, Up: []api.Coef{lit(1, "1")}, Down: []api.Coef{lit(2, "1")}}
	next := api.Deriv{Kind: api.DerivLin, A: 3, B: 6, Up: []api.Coef{lit(-8, "1"), def("-1")}, Down: []api.Coef{lit(6, "1"), def("1")}}
	clash := func(a, b int) api.Deriv { return api.Deriv{Kind: api.DerivClash, A: a, B: b} }
	turned := next
	turned.Up, turned.Down = next.Down, next.Up
	for _, c := range []struct {
		lits  []int
		steps []api.Deriv
		fault int
	}{
		{[]int{-1, -2, 3}, []api.Deriv{same, clash(4, 5)}, -1},
		{[]int{-1, -2, 3}, []api.Deriv{same, clash(5, 4)}, -1},
		{[]int{1, 2}, []api.Deriv{{Kind: api.DerivZero, Up: []api.Coef{lit(-1, "1"), lit(-2, "1")}}}, -1},
		{[]int{-4, 5}, []api.Deriv{clash(9, 10)}, -1},
		{[]int{-6, 8, 7}, []api.Deriv{next, clash(5, 7)}, -1},
		{[]int{-1, -2, 9}, []api.Deriv{same, clash(4, 5)}, 0},
		{[]int{-1, -2}, []api.Deriv{same, clash(4, 5)}, 1},
		{[]int{-1, 3}, []api.Deriv{same, clash(4, 5)}, 0},
		{[]int{-1, -2, 3}, []api.Deriv{same}, 1},
		{[]int{-1, -2, 3}, nil, 0},
		{[]int{-1, -2, 3}, []api.Deriv{same, clash(4, 5), same}, 1},
		{[]int{-1, -2, 3}, []api.Deriv{clash(4, 5)}, 0},
		{[]int{-6, 8, 7}, []api.Deriv{turned, clash(5, 7)}, 0},
		{[]int{1, 2}, []api.Deriv{{Kind: api.DerivZero, Up: []api.Coef{lit(-1, "1"), lit(-2, "2")}}}, 0},
		{[]int{1, 2}, []api.Deriv{{Kind: api.DerivZero, A: 1, Up: []api.Coef{lit(-1, "1"), lit(-2, "1")}}}, 0},
	} {
		if got := firstFault(example(), api.Lemma{Lits: c.lits, Derivs: c.steps}); got != c.fault {
			t.Errorf("the lemma %v %v: %d, want %d", c.lits, c.steps, got, c.fault)
		}
	}
}
