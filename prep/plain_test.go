package prep_test

import (
	"math/big"
	"slices"

	"arbiter/api"
)

// What stands here goes by the chapter's words and by nothing else: terms are gone down by calls that call themselves, what is added is looked for one by one, numbers are the library's.

// plainForm is a linear form over nodes.
type plainForm struct {
	m map[int]*big.Rat
	k *big.Rat
}

func (p plainForm) plus(times *big.Rat, q plainForm) plainForm {
	out := plainForm{map[int]*big.Rat{}, new(big.Rat)}
	add := func(c *big.Rat, f plainForm) {
		out.k.Add(out.k, new(big.Rat).Mul(c, f.k))
		for v, x := range f.m {
			if out.m[v] == nil {
				out.m[v] = new(big.Rat)
			}
			out.m[v].Add(out.m[v], new(big.Rat).Mul(c, x))
		}
	}
	add(big.NewRat(1, 1), p)
	add(times, q)
	for v, x := range out.m {
		if x.Sign() == 0 {
			delete(out.m, v)
		}
	}
	return out
}

func (p plainForm) times(c *big.Rat) plainForm {
	return plainForm{map[int]*big.Rat{}, new(big.Rat)}.plus(c, p)
}

func (p plainForm) vars() []int {
	var list []int
	for v := range p.m {
		list = append(list, v)
	}
	slices.Sort(list)
	return list
}

func (p plainForm) lin() api.Lin {
	out := api.Lin{K: p.k.RatString()}
	for _, v := range p.vars() {
		out.M = append(out.M, api.Mono{V: v, C: p.m[v].RatString()})
	}
	return out
}

type plainMaker struct {
	b     api.Bank
	nodes map[int]int
	forms map[int]int
	goal  api.Goal
}

// plainGoal is the goal of roots that are terms of sort Bool.
func plainGoal(b api.Bank, roots []int) api.Goal {
	m := &plainMaker{b: b, nodes: map[int]int{}, forms: map[int]int{}}
	counts := map[int]bool{}
	var count func(t int)
	count = func(t int) {
		counts[t] = true
		for _, a := range b.Terms[t].Args {
			count(a)
		}
	}
	for _, r := range roots {
		count(r)
	}
	m.addNodes(counts)
	for t := range b.Terms {
		if counts[t] && b.Terms[t].Sort == api.SortBool {
			m.forms[t] = m.formOf(t)
		}
	}
	for n, node := range m.goal.Nodes {
		if node.Kind == api.NodePick {
			m.addSides(n, node.Term)
		}
	}
	for _, r := range roots {
		m.goal.Roots = append(m.goal.Roots, m.forms[r])
	}
	return m.goal
}

func (m *plainMaker) addNodes(counts map[int]bool) {
	m.goal.Nodes = nodes()
	for t, v := range m.b.Terms {
		argument := false
		for u, w := range m.b.Terms {
			argument = argument || counts[u] && w.Op == api.OpApp && slices.Contains(w.Args, t)
		}
		node := api.GNode{Sort: v.Sort, Fun: -1, Term: t}
		switch {
		case !counts[t]:
			continue
		case v.Op == api.OpTrue:
			m.nodes[t] = 0
			continue
		case v.Op == api.OpFalse:
			m.nodes[t] = 1
			continue
		case v.Op == api.OpApp:
			node.Kind, node.Fun = api.NodeApp, v.Fun
			for _, a := range v.Args {
				node.Args = append(node.Args, m.nodes[a])
			}
		case v.Op == api.OpIte && v.Sort != api.SortBool, argument && v.Sort == api.SortBool:
			node.Kind = api.NodePick
		case argument && v.Sort == api.SortReal:
			node.Kind, node.Lin = api.NodeLin, m.linear(t).lin()
		default:
			continue
		}
		m.nodes[t] = len(m.goal.Nodes)
		m.goal.Nodes = append(m.goal.Nodes, node)
	}
}

func (m *plainMaker) linear(t int) plainForm {
	v := m.b.Terms[t]
	switch v.Op {
	case api.OpApp, api.OpIte:
		return plainForm{map[int]*big.Rat{m.nodes[t]: big.NewRat(1, 1)}, new(big.Rat)}
	case api.OpNum:
		return plainForm{map[int]*big.Rat{}, rational(v.Num)}
	}
	f := m.linear(v.Args[0])
	if v.Op == api.OpSub && len(v.Args) == 1 {
		return f.times(big.NewRat(-1, 1))
	}
	for _, a := range v.Args[1:] {
		g := m.linear(a)
		switch {
		case v.Op == api.OpAdd:
			f = f.plus(big.NewRat(1, 1), g)
		case v.Op == api.OpSub:
			f = f.plus(big.NewRat(-1, 1), g)
		case v.Op == api.OpDiv:
			f = f.times(new(big.Rat).Inv(g.k))
		case len(f.m) == 0:
			f = g.times(f.k)
		default:
			f = f.times(g.k)
		}
	}
	return f
}

func (m *plainMaker) addForm(op, atom int, args ...int) int {
	want := api.Form{Op: op, Atom: atom, Args: args}
	at := slices.IndexFunc(m.goal.Forms, func(f api.Form) bool { return sameForm(f, want) })
	if at < 0 {
		at = len(m.goal.Forms)
		m.goal.Forms = append(m.goal.Forms, want)
	}
	return at
}

func (m *plainMaker) addAtom(want api.Atom) int {
	at := slices.IndexFunc(m.goal.Atoms, func(a api.Atom) bool { return sameAtom(a, want) })
	if at < 0 {
		at = len(m.goal.Atoms)
		m.goal.Atoms = append(m.goal.Atoms, want)
	}
	return m.addForm(api.FormAtom, at)
}

func (m *plainMaker) truth(holds bool) int {
	if holds {
		return m.addForm(api.FormTrue, 0)
	}
	return m.addForm(api.FormNot, 0, m.addForm(api.FormTrue, 0))
}

func (m *plainMaker) constraint(op int, f plainForm) int {
	vars := f.vars()
	if len(vars) == 0 {
		return m.truth(f.k.Sign() < 0 || f.k.Sign() == 0 && op == api.ConLe)
	}
	f = f.times(new(big.Rat).Inv(new(big.Rat).Abs(f.m[vars[0]])))
	if op == api.ConLt {
		return m.addForm(api.FormNot, 0, m.addAtom(atMost(f.times(big.NewRat(-1, 1)).lin())))
	}
	return m.addAtom(atMost(f.lin()))
}

func (m *plainMaker) less(a, b int) plainForm {
	return m.linear(a).plus(big.NewRat(-1, 1), m.linear(b))
}

func (m *plainMaker) same(a, b int) int {
	switch m.b.Terms[a].Sort {
	case api.SortBool:
		return m.addForm(api.FormIff, 0, m.forms[a], m.forms[b])
	case api.SortReal:
		f := m.less(a, b)
		vars := f.vars()
		if len(vars) == 0 {
			return m.truth(f.k.Sign() == 0)
		}
		h := f.times(new(big.Rat).Inv(f.m[vars[0]]))
		up := m.constraint(api.ConLe, h)
		down := m.constraint(api.ConLe, h.times(big.NewRat(-1, 1)))
		return m.addForm(api.FormAnd, 0, up, down)
	}
	if a == b {
		return m.truth(true)
	}
	return m.addAtom(api.Atom{Kind: api.AtomEq, L: min(m.nodes[a], m.nodes[b]), R: max(m.nodes[a], m.nodes[b])})
}

func (m *plainMaker) joined(forms []int) int {
	if len(forms) == 1 {
		return forms[0]
	}
	return m.addForm(api.FormAnd, 0, forms...)
}

func (m *plainMaker) formOf(t int) int {
	v := m.b.Terms[t]
	var args, parts []int
	if v.Op != api.OpApp {
		for _, a := range v.Args {
			args = append(args, m.forms[a])
		}
	}
	switch v.Op {
	case api.OpTrue, api.OpFalse:
		return m.truth(v.Op == api.OpTrue)
	case api.OpApp:
		return m.addAtom(api.Atom{Kind: api.AtomTrue, L: m.nodes[t]})
	case api.OpNot, api.OpAnd, api.OpOr, api.OpIte:
		op := map[int]int{api.OpNot: api.FormNot, api.OpAnd: api.FormAnd, api.OpOr: api.FormOr, api.OpIte: api.FormIte}[v.Op]
		return m.addForm(op, 0, args...)
	case api.OpImplies:
		for _, a := range args[:len(args)-1] {
			parts = append(parts, m.addForm(api.FormNot, 0, a))
		}
		return m.addForm(api.FormOr, 0, append(parts, args[len(args)-1])...)
	case api.OpXor:
		x := args[0]
		for _, y := range args[1:] {
			x = m.addForm(api.FormNot, 0, m.addForm(api.FormIff, 0, x, y))
		}
		return x
	case api.OpDistinct:
		for i := range v.Args {
			for j := i + 1; j < len(v.Args); j++ {
				parts = append(parts, m.addForm(api.FormNot, 0, m.same(v.Args[i], v.Args[j])))
			}
		}
		return m.joined(parts)
	}
	for i := range len(v.Args) - 1 {
		a, b := v.Args[i], v.Args[i+1]
		switch v.Op {
		case api.OpEq:
			parts = append(parts, m.same(a, b))
		case api.OpLe:
			parts = append(parts, m.constraint(api.ConLe, m.less(a, b)))
		case api.OpLt:
			parts = append(parts, m.constraint(api.ConLt, m.less(a, b)))
		case api.OpGe:
			parts = append(parts, m.constraint(api.ConLe, m.less(b, a)))
		case api.OpGt:
			parts = append(parts, m.constraint(api.ConLt, m.less(b, a)))
		}
	}
	return m.joined(parts)
}

func (m *plainMaker) addSides(n, t int) {
	if m.b.Terms[t].Sort == api.SortBool {
		atom := m.addAtom(api.Atom{Kind: api.AtomTrue, L: n})
		m.goal.Sides = append(m.goal.Sides, m.addForm(api.FormIff, 0, atom, m.forms[t]))
		return
	}
	args := m.b.Terms[t].Args
	c := m.forms[args[0]]
	not := m.addForm(api.FormNot, 0, c)
	m.goal.Sides = append(m.goal.Sides, m.addForm(api.FormOr, 0, not, m.same(t, args[1])))
	m.goal.Sides = append(m.goal.Sides, m.addForm(api.FormOr, 0, c, m.same(t, args[2])))
}
