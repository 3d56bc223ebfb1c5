package quest

import (
	"arbiter/api"
	"arbiter/combine"
	"arbiter/worth"
)

// keeper lets the theories look at what the search holds, and keeps the lemmas that they object with.
type keeper struct {
	theory *combine.Theory
	atoms  []api.Atom
	trail  []bool      // by literal that is held: whether it is of an atom
	point  worth.Point // what the nodes were worth when the theories last had no objection
	early  []api.Lemma // what is given ahead of all else
	lemmas []api.Lemma // what was given since the question began
	pause  pause
}

// begin begins a question, at which nothing is held.
func (k *keeper) begin() {
	k.undo(len(k.trail))
	k.lemmas = nil
	k.pause = pause{}
}

func (k *keeper) assert(lit int) {
	ofAtom := max(lit, -lit) <= len(k.atoms)
	k.trail = append(k.trail, ofAtom)
	if ofAtom {
		k.theory.Assert(lit)
	}
}

func (k *keeper) undo(n int) {
	rest := len(k.trail) - n
	count := 0
	for _, ofAtom := range k.trail[rest:] {
		if ofAtom {
			count++
		}
	}
	k.theory.Undo(count)
	k.trail = k.trail[:rest]
}

// check gives a lemma, if what is held cannot be so. Where all is held it must be found out: if nothing is given that objects, that is the end of the search.
func (k *keeper) check(trail []int, full bool) [][]int {
	clauses := k.give(k.early)
	k.early = nil
	if !full && (len(clauses) > 0 || k.pause.lasts()) {
		return clauses
	}
	ok := k.theory.Check()
	k.pause.begin(ok)
	if ok {
		k.see()
		return clauses
	}
	lemma, _ := k.theory.Lemma()
	return append(clauses, k.give([]api.Lemma{lemma})...)
}

// see takes over what the nodes are worth for now.
func (k *keeper) see() {
	values, _ := k.theory.World()
	k.point = make(worth.Point, len(values))
	for i, v := range values {
		// A truth that is neither, yet, is no value.
		if value, ok := worth.Of(v, v.Sort); ok {
			k.point[i] = value
		}
	}
}

// side tells on which side the theories saw an atom last, if they did. Where what is left does not matter, all of it can stay as they see it, and no more is to be found out.
func (k *keeper) side(v int) int {
	if v > len(k.atoms) || k.point == nil {
		return 0
	}
	atom := k.atoms[v-1]
	if atom.Kind == api.AtomTrue && k.point[atom.L] == nil {
		return 0
	}
	if k.point.Meets(atom) {
		return 1
	}
	return -1
}

// give keeps lemmas, and tells their clauses.
func (k *keeper) give(lemmas []api.Lemma) [][]int {
	k.lemmas = append(k.lemmas, lemmas...)
	clauses := make([][]int, len(lemmas))
	for i, l := range lemmas {
		clauses[i] = l.Lits
	}
	return clauses
}

// longest is how many times at most the theories are passed over.
const longest = 7

// pause is how many times the theories are passed over while they have nothing to object to: to let them look takes longer than to search on.
type pause struct {
	length, left int
}

// lasts tells whether the theories are passed over this time.
func (p *pause) lasts() bool {
	p.left--
	return p.left >= 0
}

// begin settles how long it takes until they look again.
func (p *pause) begin(ok bool) {
	if ok {
		p.length = min(2*p.length+1, longest)
	} else {
		p.length /= 2
	}
	p.left = p.length
}
