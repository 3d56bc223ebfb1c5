package cnf

import (
	"cmp"
	"slices"
)

// tidy tells the clauses in their order, each in order too, without those that say nothing or stand there already.
func tidy(clauses [][]int) [][]int {
	found := map[string]int{} // by a clause's text: where it is told
	last := map[int]int{}     // by literal: behind the last clause that it was met in
	var out [][]int
	for i, clause := range clauses {
		lits, ok := once(clause, last, i+1)
		if !ok {
			continue
		}
		slices.SortFunc(lits, byVariable)
		text := string(appendLine(nil, lits))
		if _, ok := found[text]; !ok {
			found[text] = len(out)
			out = append(out, lits)
		}
	}
	slices.SortFunc(out, func(a, b []int) int { return slices.CompareFunc(a, b, byVariable) })
	return out
}

// once tells the literals of a clause, each one time, and whether none stands beside its opposite. The mark is the clause's own.
func once(clause []int, last map[int]int, mark int) ([]int, bool) {
	var lits []int
	for _, lit := range clause {
		if last[-lit] == mark {
			return nil, false
		}
		if last[lit] != mark {
			last[lit] = mark
			lits = append(lits, lit)
		}
	}
	return lits, true
}

// byVariable tells how two literals stand to one another: by their variables, and of one variable the literal that is the variable first.
func byVariable(a, b int) int {
	return cmp.Or(cmp.Compare(max(a, -a), max(b, -b)), cmp.Compare(b, a))
}
