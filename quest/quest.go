// Package quest asks whether roots of a goal can be true together: the search for an assignment and the theories of its atoms, which remember from one question to the next what was found out. For decide and arbiter.
package quest

import (
	"arbiter/api"
	"arbiter/cnf"
	"arbiter/combine"
	"arbiter/seek"
)

// Quest is a goal of which it is asked.
type Quest struct {
	clauses api.Cnf
	keeper  keeper
}

// New is a quest of a goal that is sound, of which nothing is known.
func New(g api.Goal) *Quest {
	clauses, _, _ := cnf.Clauses(g)
	theory, _ := combine.New(g)
	return &Quest{clauses, keeper{theory: theory, atoms: g.Atoms, early: cutLemmas(g.Atoms)}}
}

// Tops tells the literals that stand for the roots. The list is the quest's.
func (q *Quest) Tops() []int {
	return q.clauses.Tops
}

// Know takes over clauses that are true wherever the sides are.
func (q *Quest) Know(clauses ...[]int) {
	q.clauses.Clauses = append(q.clauses.Clauses, clauses...)
}

// Answer is what a question comes to.
type Answer struct {
	api.Outcome
	Values []api.Value // Sat: by node
	Lemmas []api.Lemma // not Sat: those that the steps name
}

// Ask asks whether literals can be true together.
func (q *Quest) Ask(lits []int) Answer {
	k := &q.keeper
	k.begin()
	outcome := seek.Settle(q.clauses.Vars, q.clauses.Clauses, lits, seek.Hook{Assert: k.assert, Undo: k.undo, Check: k.check, Side: k.side})
	if outcome.Sat {
		for _, l := range k.lemmas {
			q.Know(l.Lits)
		}
		values, _ := k.theory.World()
		return Answer{Outcome: outcome, Values: values}
	}
	for _, step := range outcome.Steps {
		q.Know(step.Lits)
	}
	return Answer{Outcome: outcome, Lemmas: k.lemmas}
}
