package proof_test

import (
	"math/big"
	"slices"

	"arbiter/api"
	"arbiter/sexp"
)

// This file says by the chapter's words which proof a text is, and if none, where: each function tells the place of the first thing that cannot stand, or -1.

type tree struct {
	api.Node
	kids []tree
}

func treesOf(nodes []api.Node) []tree {
	var list []tree
	for at := 0; at < len(nodes); at += nodes[at].Size {
		list = append(list, tree{nodes[at], treesOf(nodes[at+1 : at+nodes[at].Size])})
	}
	return list
}

func (x tree) isList() bool { return x.Kind == api.KindOpen }

// head tells the symbol with which a list begins.
func (x tree) head() string {
	if len(x.kids) == 0 || x.kids[0].Kind != api.KindSymbol {
		return "?"
	}
	return x.kids[0].Text
}

func plainRead(text string) (api.Proof, api.Errno, int) {
	nodes, err, place := sexp.Read(text)
	if err != api.OK {
		return api.Proof{}, err, place
	}
	var p api.Proof
	if bad := plainProof(treesOf(nodes), len(text), &p); bad >= 0 {
		return api.Proof{}, api.ErrSyntax, bad
	}
	return p, api.OK, 0
}

func plainProof(list []tree, length int, p *api.Proof) int {
	switch {
	case len(list) == 0:
		return length
	case !list[0].isList():
		return list[0].At
	case len(list) > 1:
		return list[1].At
	}
	order := []string{"lemma", "step", "failed", "nothing"}
	now := 0
	for _, x := range list[0].kids {
		k := slices.Index(order, x.head())
		if !x.isList() || k < now || k == 3 {
			return x.At
		}
		now = k
		if k == 2 {
			now = 3
		}
	}
	if now < 3 {
		return list[0].At
	}
	for _, x := range list[0].kids {
		if bad := plainPart(x, p); bad >= 0 {
			return bad
		}
	}
	return -1
}

func plainPart(x tree, p *api.Proof) int {
	n := len(x.kids)
	switch x.head() {
	case "lemma":
		if n < 2 {
			return x.At
		}
		var l api.Lemma
		if bad := plainLits(x.kids[1], &l.Lits); bad >= 0 {
			return bad
		}
		for _, kid := range x.kids[2:] {
			var d api.Deriv
			if bad := plainDeriv(kid, &d); bad >= 0 {
				return bad
			}
			l.Derivs = append(l.Derivs, d)
		}
		p.Lemmas = append(p.Lemmas, l)
	case "step":
		if n != 2 && n != 3 {
			return x.At
		}
		s := api.Step{Lemma: -1}
		if n == 3 {
			if bad := plainNumeral(x.kids[1], &s.Lemma); bad >= 0 {
				return bad
			}
		}
		if bad := plainLits(x.kids[n-1], &s.Lits); bad >= 0 {
			return bad
		}
		p.Steps = append(p.Steps, s)
	default:
		if n != 2 {
			return x.At
		}
		return plainLits(x.kids[1], &p.Failed)
	}
	return -1
}

func plainLits(x tree, lits *[]int) int {
	if !x.isList() {
		return x.At
	}
	for _, kid := range x.kids {
		var n int
		if bad := plainWhole(kid, &n); bad >= 0 {
			return bad
		}
		*lits = append(*lits, n)
	}
	return -1
}

func plainNumeral(x tree, n *int) int {
	value, ok := new(big.Int).SetString(x.Text, 10)
	if x.Kind != api.KindNumeral || !ok || value.Cmp(big.NewInt(1000000000)) > 0 {
		return x.At
	}
	*n = int(value.Int64())
	return -1
}

func plainWhole(x tree, n *int) int {
	if !x.isList() {
		return plainNumeral(x, n)
	}
	if len(x.kids) != 2 {
		return x.At
	}
	if x.head() != "-" {
		return x.kids[0].At
	}
	bad := plainNumeral(x.kids[1], n)
	*n = -*n
	return bad
}

func plainDeriv(x tree, d *api.Deriv) int {
	if !x.isList() || len(x.kids) == 0 {
		return x.At
	}
	words := []string{"", "cong", "lin", "clash", "zero"}
	sizes := []int{0, 3, 5, 3, 2}
	d.Kind = slices.Index(words, x.head())
	if d.Kind < 1 {
		return x.kids[0].At
	}
	if len(x.kids) != sizes[d.Kind] {
		return x.At
	}
	rest := x.kids[1:]
	if d.Kind != api.DerivZero {
		for i, n := range []*int{&d.A, &d.B} {
			if bad := plainWhole(rest[i], n); bad >= 0 {
				return bad
			}
		}
		rest = rest[2:]
	}
	for i, list := range []*[]api.Coef{&d.Up, &d.Down} {
		if i < len(rest) {
			if bad := plainFacts(rest[i], list); bad >= 0 {
				return bad
			}
		}
	}
	return -1
}

func plainFacts(x tree, list *[]api.Coef) int {
	if !x.isList() {
		return x.At
	}
	for _, kid := range x.kids {
		var c api.Coef
		if len(kid.kids) != 3 {
			return kid.At
		}
		c.Kind = slices.Index([]string{"", "lit", "eq", "def"}, kid.head())
		if c.Kind < 1 {
			return kid.kids[0].At
		}
		if bad := plainWhole(kid.kids[1], &c.Ref); bad >= 0 {
			return bad
		}
		if bad := plainNumber(kid.kids[2], &c.C); bad >= 0 {
			return bad
		}
		*list = append(*list, c)
	}
	return -1
}

func plainNumber(x tree, text *string) int {
	value := new(big.Rat)
	bad := -1
	switch {
	case !x.isList():
		bad = plainConstant(x, value)
	case len(x.kids) == 2:
		if x.head() != "-" {
			return x.kids[0].At
		}
		if y := x.kids[1]; !y.isList() {
			bad = plainConstant(y, value)
		} else if bad = plainQuotient(y, value); bad >= 0 {
			return bad
		}
		value.Neg(value)
	default:
		bad = plainQuotient(x, value)
	}
	*text = value.RatString()
	return bad
}

func plainQuotient(x tree, value *big.Rat) int {
	if len(x.kids) != 3 {
		return x.At
	}
	if x.head() != "/" {
		return x.kids[0].At
	}
	var upper, lower big.Rat
	if bad := plainConstant(x.kids[1], &upper); bad >= 0 {
		return bad
	}
	if bad := plainConstant(x.kids[2], &lower); bad >= 0 {
		return bad
	}
	if lower.Sign() == 0 {
		return x.kids[2].At
	}
	value.Quo(&upper, &lower)
	return -1
}

func plainConstant(x tree, value *big.Rat) int {
	if x.Kind != api.KindNumeral && x.Kind != api.KindDecimal {
		return x.At
	}
	value.SetString(x.Text)
	return -1
}
