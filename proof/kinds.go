package proof

import "arbiter/api"

// kind is what a step of a lemma is: how it is written, and when it follows.
type kind struct {
	word    string
	nodes   bool // whether it says that A and B are the same
	up      bool // whether it has Up
	down    bool // whether it has Down
	last    bool // whether it is the last step, and no other
	follows func(l *lemma, d api.Deriv) bool
}

func kinds() [api.DerivZero + 1]kind {
	return [...]kind{
		api.DerivCong:  {word: "cong", nodes: true, follows: (*lemma).isSame},
		api.DerivLin:   {word: "lin", nodes: true, up: true, down: true, follows: (*lemma).isBetween},
		api.DerivClash: {word: "clash", nodes: true, last: true, follows: (*lemma).isClash},
		api.DerivZero:  {word: "zero", up: true, last: true, follows: (*lemma).isNothing},
	}
}

// isKind tells whether steps can be of that kind.
func isKind(number int) bool {
	return number >= api.DerivCong && number <= api.DerivZero
}

// fits tells whether a step has nothing that its kind does not have.
func (k kind) fits(d api.Deriv) bool {
	return (k.nodes || d.A == 0 && d.B == 0) && (k.up || len(d.Up) == 0) && (k.down || len(d.Down) == 0)
}

// size tells how many things stand in the list that a step is written as.
func (k kind) size() int {
	size := 1
	if k.nodes {
		size += 2
	}
	for _, has := range [...]bool{k.up, k.down} {
		if has {
			size++
		}
	}
	return size
}
