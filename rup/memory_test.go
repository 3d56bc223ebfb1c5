package rup_test

import (
	"math/rand"
	"slices"
	"testing"

	"arbiter/api"
	"arbiter/rup"
)

// roomy is a list with spare room, and something in it.
func roomy(list []int) []int {
	return append(slices.Grow(slices.Clone(list), 2), 7777, 7777)[:len(list)]
}

// input is what the calls are handed.
type input struct {
	c            api.Cnf
	steps        []api.Step
	lines        []api.Line
	clause, lits []int
}

func someInput(rng *rand.Rand) input {
	c := someCnf(rng)
	in := input{c: api.Cnf{Vars: c.Vars, Tops: roomy(c.Tops)}, lits: roomy(someClause(rng, c.Vars, 2))}
	for _, clause := range c.Clauses {
		in.c.Clauses = append(in.c.Clauses, roomy(clause))
	}
	steps, clause := someSteps(rng, c, false)
	in.clause = roomy(clause)
	for _, s := range steps {
		in.steps = append(in.steps, step(s.Lemma, roomy(s.Lits)...))
	}
	lines, _ := rup.Hint(c, steps, clause)
	for _, l := range lines {
		in.lines = append(in.lines, api.Line{Lits: roomy(l.Lits), Hints: roomy(l.Hints)})
	}
	if len(c.Clauses) > 0 {
		in.lines = append(in.lines, api.Line{Delete: true, Hints: roomy([]int{1})})
	}
	return in
}

// whole tells all lists up to the ends of their spare room.
func (in input) whole() []int {
	lists := [][]int{in.c.Tops, in.clause, in.lits}
	lists = append(lists, in.c.Clauses...)
	for _, s := range in.steps {
		lists = append(lists, s.Lits)
	}
	for _, l := range in.lines {
		lists = append(lists, l.Lits, l.Hints)
	}
	var out []int
	for _, list := range lists {
		out = append(append(out, list[:cap(list)]...), 0)
	}
	return out
}

// spoil writes over lists, spare room included, and looks that no two of them share any.
func spoil(t *testing.T, lists ...[]int) {
	t.Helper()
	for _, list := range lists {
		list = list[:cap(list)]
		if slices.Contains(list, -99) {
			t.Fatal("P0.4: two lists of an answer share memory")
		}
		for i := range list {
			list[i] = -99
		}
	}
}

func spoilLines(t *testing.T, lines []api.Line) {
	t.Helper()
	for _, l := range lines {
		spoil(t, l.Lits, l.Hints)
	}
}

// What is handed in is not changed, nor is its spare room, and what is handed out shares nothing with it.
func TestMemory(t *testing.T) {
	for seed := range int64(500) {
		in := someInput(rand.New(rand.NewSource(seed)))
		before := in.whole()
		var told [2][]int
		for i := range told {
			held, _, _ := rup.Unit(in.c, in.lits)
			core, stay, e := rup.Trim(in.c, in.steps, in.clause)
			lines, e2 := rup.Hint(in.c, in.steps, in.clause)
			e3, _ := rup.Check(in.c, in.steps, in.clause)
			e4, _ := rup.Follow(in.c, in.lines)
			text, e5 := rup.Show(in.c, in.lines)
			again, e6, _ := rup.Read(in.c, text)
			if e != api.OK || e2 != api.OK || e3 != api.OK || e4 != api.OK || e5 != api.OK || e6 != api.OK {
				t.Fatal(e, e2, e3, e4, e5, e6)
			}
			told[i] = slices.Concat(held, []int{0}, core, []int{0}, stay)
			for _, l := range append(slices.Clone(lines), again...) {
				told[i] = slices.Concat(told[i], []int{0}, l.Lits, []int{0}, l.Hints)
			}
			spoil(t, held, core, stay)
			spoilLines(t, lines)
			spoilLines(t, again)
			if !slices.Equal(before, in.whole()) {
				t.Fatal("U1, P0.4: what is handed in is changed")
			}
		}
		if !slices.Equal(told[0], told[1]) {
			t.Fatal("P0.5: the same question is answered otherwise")
		}
	}
}
