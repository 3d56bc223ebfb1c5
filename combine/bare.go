package combine

import (
	"cmp"
	"slices"

	"arbiter/api"
)

// excerpt is what literals of a goal are made of, as a goal of its own.
type excerpt struct {
	goal  api.Goal
	nodes []int // their numbers in the whole
	atoms []int
}

// excerptOf tells the excerpt that literals need, and their numbers in it.
func excerptOf(g api.Goal, lits []int) (*excerpt, []int) {
	x, needed, own := &excerpt{}, newScope(g), make([]int, len(lits))
	needed.take(0, 1)
	for i, lit := range lits {
		needed.open(lit)
		x.atoms = append(x.atoms, atomOf(lit))
		own[i] = i + 1
		if lit < 0 {
			own[i] = -i - 1
		}
	}
	x.nodes = slices.Sorted(slices.Values(needed.nodes.list))
	numbers := map[int]int{}
	for i, node := range x.nodes {
		numbers[node] = i
		x.goal.Nodes = append(x.goal.Nodes, moveNode(g.Nodes[node], numbers))
	}
	for _, atom := range x.atoms {
		x.goal.Atoms = append(x.goal.Atoms, moveAtom(g.Atoms[atom], numbers))
	}
	return x, own
}

func moveNode(n api.GNode, numbers map[int]int) api.GNode {
	args := make([]int, len(n.Args))
	for i, arg := range n.Args {
		args[i] = numbers[arg]
	}
	n.Args, n.Lin = args, moveForm(n.Lin, numbers)
	return n
}

func moveAtom(a api.Atom, numbers map[int]int) api.Atom {
	a.L, a.R, a.Con.F = numbers[a.L], numbers[a.R], moveForm(a.Con.F, numbers)
	return a
}

func moveForm(f api.Lin, numbers map[int]int) api.Lin {
	own := api.Lin{M: slices.Clone(f.M), K: f.K}
	for i := range own.M {
		own.M[i].V = numbers[own.M[i].V]
	}
	return own
}

// bare tells a lemma of which no literal can be left out. Whether literals can be true together hangs on the nodes that they are made of alone: what others are worth can be worked out from these, or is free. So it is found out on an excerpt.
func (t *Theory) bare() api.Lemma {
	lits, steps := t.talk.trace()
	x, own := excerptOf(t.goal, lits)
	if !x.isBare(steps) {
		small := newTalk(x.goal)
		for _, lit := range small.need(own) {
			small.hold(lit)
		}
		small.settle()
		lits, steps = small.trace()
		x.spell(lits, steps)
	}
	for i, lit := range lits {
		lits[i] = -lit
	}
	slices.SortFunc(lits, func(a, b int) int { return cmp.Or(cmp.Compare(atomOf(a), atomOf(b)), cmp.Compare(a, b)) })
	return api.Lemma{Lits: lits, Derivs: steps}
}

// isBare tells whether it is known at once that no literal can be left out: if bounds alone clash, of which none can be left out, and no congruence can tell more of the numbers.
func (x *excerpt) isBare(steps []api.Deriv) bool {
	return steps[0].Kind == api.DerivZero && len(families(x.goal)) == 0
}

// need tells which literals of some are needed for a clash, where all of them clash with what is held. To take the halves in turns has each literal held as often as they can be halved, not once for each other literal.
func (t *talk) need(lits []int) []int {
	if len(lits) == 1 {
		if t.settle() {
			return lits
		}
		return nil
	}
	first, second := lits[:len(lits)/2], lits[len(lits)/2:]
	second = t.beside(first, second)
	first = t.beside(second, first)
	return slices.Concat(first, second)
}

// beside tells which literals are needed where others are held too.
func (t *talk) beside(others, lits []int) []int {
	for _, lit := range others {
		t.hold(lit)
	}
	lits = t.need(lits)
	t.back(len(others))
	return lits
}

// spell puts the numbers of the whole goal into literals and steps of the excerpt.
func (x *excerpt) spell(lits []int, steps []api.Deriv) {
	for i, lit := range lits {
		lits[i] = x.literal(lit)
	}
	for i := range steps {
		steps[i].A, steps[i].B = x.nodes[steps[i].A], x.nodes[steps[i].B]
		x.spellFacts(steps[i].Up)
		x.spellFacts(steps[i].Down)
	}
}

func (x *excerpt) literal(lit int) int {
	number := x.atoms[atomOf(lit)] + 1
	if lit < 0 {
		return -number
	}
	return number
}

func (x *excerpt) spellFacts(list []api.Coef) {
	for i, c := range list {
		switch c.Kind {
		case api.CoefLit:
			list[i].Ref = x.literal(c.Ref)
		case api.CoefDef:
			list[i].Ref = x.nodes[c.Ref]
		}
	}
}
