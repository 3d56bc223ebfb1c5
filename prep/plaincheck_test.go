package prep_test

import (
	"math/big"

	"arbiter/api"
)

// plainCheck tells whether a goal is sound in form, by the chapter's numbered words.
func plainCheck(g api.Goal) bool {
	return plainNodes(g) && plainAtoms(g) && plainForms(g)
}

func plainEmpty(f api.Lin) bool { return len(f.M) == 0 && f.K == "" }

// plainCanonical tells whether a text is a rational's: the library writes it just so.
func plainCanonical(text string) bool {
	for _, c := range text {
		if c != '-' && c != '/' && (c < '0' || c > '9') {
			return false
		}
	}
	q, ok := new(big.Rat).SetString(text)
	return ok && q.RatString() == text
}

func plainLin(f api.Lin, nodes []api.GNode) bool {
	if !plainCanonical(f.K) {
		return false
	}
	last := -1
	for _, m := range f.M {
		if !plainCanonical(m.C) || m.C == "0" || m.V <= last || m.V >= len(nodes) {
			return false
		}
		last = m.V
		n := nodes[m.V]
		if n.Sort != api.SortReal || n.Kind != api.NodeApp && n.Kind != api.NodePick {
			return false
		}
	}
	return true
}

func plainNodes(g api.Goal) bool {
	if len(g.Nodes) < 2 || len(g.Nodes) > 100002 {
		return false
	}
	for i, n := range g.Nodes {
		if i < 2 {
			if n.Kind != i+1 || n.Sort != 0 || n.Fun != -1 || len(n.Args) > 0 || !plainEmpty(n.Lin) || n.Term != -1 {
				return false
			}
			continue
		}
		if n.Term < 0 || n.Sort < 0 {
			return false
		}
		switch n.Kind {
		case 3:
			if n.Fun < 0 || !plainEmpty(n.Lin) {
				return false
			}
			for _, a := range n.Args {
				if a < 0 || a >= i {
					return false
				}
			}
		case 4:
			if n.Fun != -1 || len(n.Args) > 0 || n.Sort != 1 || !plainLin(n.Lin, g.Nodes[:i]) {
				return false
			}
		case 5:
			if n.Fun != -1 || len(n.Args) > 0 || !plainEmpty(n.Lin) {
				return false
			}
		default:
			return false
		}
	}
	for _, a := range g.Nodes {
		for _, b := range g.Nodes {
			if a.Kind != 3 || b.Kind != 3 || a.Fun != b.Fun {
				continue
			}
			if a.Sort != b.Sort || len(a.Args) != len(b.Args) {
				return false
			}
			for i := range a.Args {
				if g.Nodes[a.Args[i]].Sort != g.Nodes[b.Args[i]].Sort {
					return false
				}
			}
		}
	}
	return true
}

func plainAtoms(g api.Goal) bool {
	if len(g.Atoms) > 100000 {
		return false
	}
	true_ := map[int]bool{}
	for _, a := range g.Atoms {
		if a.L < 0 || a.L >= len(g.Nodes) || a.R < 0 || a.R >= len(g.Nodes) {
			return false
		}
		l, r := g.Nodes[a.L], g.Nodes[a.R]
		if a.Kind != 3 && (a.Con.Op != 0 || !plainEmpty(a.Con.F)) {
			return false
		}
		switch a.Kind {
		case 1:
			if a.R != 0 || l.Sort != 0 || l.Kind != 3 && l.Kind != 5 {
				return false
			}
			true_[a.L] = true
		case 2:
			if a.L >= a.R || l.Sort != r.Sort || l.Sort < 2 {
				return false
			}
		case 3:
			if a.L != 0 || a.R != 0 || a.Con.Op != 1 && a.Con.Op != 2 || !plainLin(a.Con.F, g.Nodes) {
				return false
			}
		default:
			return false
		}
	}
	for i, n := range g.Nodes {
		if n.Sort == 0 && (n.Kind == 3 || n.Kind == 5) && !true_[i] {
			return false
		}
	}
	return true
}

func plainForms(g api.Goal) bool {
	if len(g.Forms) > 300000 {
		return false
	}
	least := []int{1: 0, 2: 0, 3: 1, 4: 2, 5: 2, 6: 2, 7: 3}
	most := []int{1: 0, 2: 0, 3: 1, 4: 1 << 40, 5: 1 << 40, 6: 2, 7: 3}
	for i, f := range g.Forms {
		if f.Op < 1 || f.Op > 7 || len(f.Args) < least[f.Op] || len(f.Args) > most[f.Op] {
			return false
		}
		if f.Op == 2 && (f.Atom < 0 || f.Atom >= len(g.Atoms)) || f.Op != 2 && f.Atom != 0 {
			return false
		}
		for _, a := range f.Args {
			if a < 0 || a >= i {
				return false
			}
		}
	}
	for _, list := range [][]int{g.Sides, g.Roots} {
		for _, f := range list {
			if f < 0 || f >= len(g.Forms) {
				return false
			}
		}
	}
	return true
}
