package prep

import (
	"slices"

	"arbiter/api"
	"arbiter/lin"
)

// isGoal tells whether a goal is sound in form.
func isGoal(g api.Goal) bool {
	return areNodes(g.Nodes) && areAtoms(g) && areForms(g) &&
		areBelow(len(g.Forms), g.Sides) && areBelow(len(g.Forms), g.Roots)
}

// areBelow tells whether all numbers are from 0 on and below the bound.
func areBelow(bound int, numbers []int) bool {
	for _, n := range numbers {
		if n < 0 || n >= bound {
			return false
		}
	}
	return true
}

func areNodes(nodes []api.GNode) bool {
	if len(nodes) < 2 || len(nodes) > api.MaxTerms+2 {
		return false
	}
	if !isTruth(nodes[0], api.NodeTrue) || !isTruth(nodes[1], api.NodeFalse) {
		return false
	}
	first := map[int]api.GNode{} // by function: its first application
	for i := 2; i < len(nodes); i++ {
		n := nodes[i]
		if n.Term < 0 || !isNode(n, nodes[:i]) {
			return false
		}
		if n.Kind != api.NodeApp {
			continue
		}
		if f, ok := first[n.Fun]; ok && !areAlike(f, n, nodes) {
			return false
		} else if !ok {
			first[n.Fun] = n
		}
	}
	return true
}

func isTruth(n api.GNode, kind int) bool {
	return n.Kind == kind && n.Sort == api.SortBool && n.Term == -1 && isBare(n)
}

// isBare tells whether a node has no parts.
func isBare(n api.GNode) bool {
	return n.Fun == -1 && len(n.Args) == 0 && isEmpty(n.Lin)
}

// isEmpty tells whether a form stands where none is wanted.
func isEmpty(f api.Lin) bool {
	return len(f.M) == 0 && f.K == ""
}

// isNode tells whether a node can stand behind the earlier ones.
func isNode(n api.GNode, earlier []api.GNode) bool {
	switch n.Kind {
	case api.NodeApp:
		return n.Fun >= 0 && n.Sort >= 0 && areBelow(len(earlier), n.Args) && isEmpty(n.Lin)
	case api.NodeLin:
		return n.Fun == -1 && n.Sort == api.SortReal && len(n.Args) == 0 && isOver(n.Lin, earlier)
	case api.NodePick:
		return n.Sort >= 0 && isBare(n)
	}
	return false
}

// isChosen tells whether what a node is worth is not reckoned from others.
func isChosen(n api.GNode) bool {
	return n.Kind == api.NodeApp || n.Kind == api.NodePick
}

// isOver tells whether f is a canonical form over numbers that are chosen.
func isOver(f api.Lin, nodes []api.GNode) bool {
	if lin.Check(f) != api.OK {
		return false
	}
	for _, mono := range f.M {
		if mono.V >= len(nodes) || nodes[mono.V].Sort != api.SortReal || !isChosen(nodes[mono.V]) {
			return false
		}
	}
	return true
}

// areAlike tells whether two nodes can be of one function.
func areAlike(a, b api.GNode, nodes []api.GNode) bool {
	return a.Sort == b.Sort && slices.EqualFunc(a.Args, b.Args, func(x, y int) bool { return nodes[x].Sort == nodes[y].Sort })
}

func areAtoms(g api.Goal) bool {
	if len(g.Atoms) > api.MaxAtoms {
		return false
	}
	told := make([]bool, len(g.Nodes)) // whether the node has an AtomTrue
	for _, a := range g.Atoms {
		if !isAtom(a, g.Nodes) {
			return false
		}
		if a.Kind == api.AtomTrue {
			told[a.L] = true
		}
	}
	for i, n := range g.Nodes {
		if n.Sort == api.SortBool && isChosen(n) && !told[i] {
			return false
		}
	}
	return true
}

func isAtom(a api.Atom, nodes []api.GNode) bool {
	if a.Kind == api.AtomCon {
		return a.L == 0 && a.R == 0 && (a.Con.Op == api.ConLe || a.Con.Op == api.ConLt) && isOver(a.Con.F, nodes)
	}
	if a.Con.Op != 0 || !isEmpty(a.Con.F) || !areBelow(len(nodes), []int{a.L, a.R}) {
		return false
	}
	l, r := nodes[a.L], nodes[a.R]
	switch a.Kind {
	case api.AtomTrue:
		return l.Sort == api.SortBool && isChosen(l) && a.R == 0
	case api.AtomEq:
		return a.L < a.R && l.Sort == r.Sort && l.Sort >= api.SortFirst
	}
	return false
}

func areForms(g api.Goal) bool {
	if len(g.Forms) > api.MaxForms {
		return false
	}
	for i, f := range g.Forms {
		if !areBelow(i, f.Args) || !isForm(f, len(g.Atoms)) {
			return false
		}
	}
	return true
}

// isForm tells whether a form has the parts of its operator.
func isForm(f api.Form, atoms int) bool {
	if f.Op == api.FormAtom {
		return len(f.Args) == 0 && f.Atom >= 0 && f.Atom < atoms
	}
	if f.Atom != 0 {
		return false
	}
	switch f.Op {
	case api.FormTrue:
		return len(f.Args) == 0
	case api.FormNot:
		return len(f.Args) == 1
	case api.FormAnd, api.FormOr:
		return len(f.Args) >= 2
	case api.FormIff:
		return len(f.Args) == 2
	case api.FormIte:
		return len(f.Args) == 3
	}
	return false
}
