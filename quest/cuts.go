package quest

import (
	"cmp"
	"slices"
	"strconv"

	"arbiter/api"
	"arbiter/rat"
)

// cut is a literal that says that a direction, a form without a number, is at most a number, or below it.
type cut struct {
	lit    int
	at     rat.Rat
	strict bool
	times  rat.Rat // how many times the constraint that the literal says is taken to come to that
}

// cutLemmas tells lemmas about atoms that speak of one direction: what is at most a number is at most each greater one. The theories would find them one by one, and often there are as many as pairs of atoms.
func cutLemmas(atoms []api.Atom) []api.Lemma {
	var lemmas []api.Lemma
	for _, cuts := range directions(atoms) {
		slices.SortFunc(cuts, cut.compare)
		for i := range len(cuts) - 1 {
			c, d := cuts[i], cuts[i+1]
			lemmas = append(lemmas, c.within(d))
			if c.strict == d.strict && c.at.Cmp(d.at) == 0 {
				lemmas = append(lemmas, d.within(c))
			}
		}
	}
	return lemmas
}

// directions tells the cuts of each direction, in the order in which these are first met.
func directions(atoms []api.Atom) [][]cut {
	var groups [][]cut
	numbers := map[string]int{}
	for i, a := range atoms {
		if a.Kind != api.AtomCon || len(a.Con.F.M) == 0 {
			continue
		}
		lead, _ := rat.Parse(a.Con.F.M[0].C)
		text := direction(a.Con.F.M, lead)
		number, ok := numbers[text]
		if !ok {
			number = len(groups)
			numbers[text] = number
			groups = append(groups, nil)
		}
		groups[number] = append(groups[number], cutOf(i+1, a.Con, lead))
	}
	return groups
}

// direction writes a sum divided by its first coefficient.
func direction(m []api.Mono, lead rat.Rat) string {
	var text []byte
	for _, mono := range m {
		c, _ := rat.Parse(mono.C)
		text = strconv.AppendInt(text, int64(mono.V), 10)
		text = append(text, ' ')
		text = append(text, c.Quo(lead).Text()...)
		text = append(text, ' ')
	}
	return string(text)
}

// cutOf tells the cut that a constraint, or its opposite, is.
func cutOf(lit int, con api.Con, lead rat.Rat) cut {
	k, _ := rat.Parse(con.F.K)
	one := rat.Whole(false, rat.Word(1))
	c := cut{lit: lit, at: k.Neg().Quo(lead), strict: con.Op == api.ConLt, times: one.Quo(lead)}
	if lead.Sign() < 0 {
		c.lit, c.strict, c.times = -lit, !c.strict, c.times.Neg()
	}
	return c
}

// compare sets ahead what says more.
func (c cut) compare(d cut) int {
	if order := c.at.Cmp(d.at); order != 0 || c.strict == d.strict {
		return cmp.Or(order, cmp.Compare(c.lit, d.lit))
	}
	if c.strict {
		return -1
	}
	return 1
}

// within tells the lemma that one cut says no less than another.
func (c cut) within(d cut) api.Lemma {
	return api.Lemma{
		Lits: []int{-c.lit, d.lit},
		Derivs: []api.Deriv{{Kind: api.DerivZero, Up: []api.Coef{
			{Kind: api.CoefLit, Ref: c.lit, C: c.times.Text()},
			{Kind: api.CoefLit, Ref: -d.lit, C: d.times.Text()},
		}}},
	}
}
