package arbiter

import (
	"slices"

	"arbiter/api"
	"arbiter/decide"
	"arbiter/prep"
	"arbiter/quest"
	"arbiter/term"
)

// needed tells demands that, with those that must stay, cannot all be true, and of which none can be left out: their numbers, rising. Those that must not stay may be left out.
func (k *check) needed(mustStay func(number int) bool) []int {
	q := k.again()
	var stay []int
	numbers := map[int]int{} // by literal: the first demand that it stands for, if all of these may be left out
	for number, lit := range slices.Backward(q.Tops()) {
		numbers[lit] = number
	}
	for number, lit := range q.Tops() {
		if mustStay(number) {
			delete(numbers, lit)
			stay = append(stay, lit)
		}
	}
	// What did not fail is not needed.
	free := slices.DeleteFunc(slices.Clone(k.proof.Failed), func(lit int) bool {
		_, ok := numbers[lit]
		return !ok
	})
	var found []int
	for _, lit := range shrink(q, stay, free) {
		found = append(found, numbers[lit])
	}
	slices.Sort(found)
	// Without any one of them they can be true, so that they are right if their own goal is not above a limit.
	if k.isAbove(k.part(mustStay, found)) {
		return k.plainly(mustStay)
	}
	return found
}

// part tells the demands that must stay and some others, in their order.
func (k *check) part(mustStay func(number int) bool, others []int) []int {
	list := slices.Clone(others)
	for number := range k.roots {
		if mustStay(number) {
			list = append(list, number)
		}
	}
	slices.Sort(list)
	return list
}

// alone tells the bank of some demands, and these in it.
func (k *check) alone(part []int) (api.Bank, []int) {
	var roots []int
	for _, number := range part {
		roots = append(roots, k.roots[number])
	}
	bank, own, _ := term.Compact(k.bank, roots)
	return bank, own
}

// isAbove tells whether the goal of some demands alone is above a limit. (The whole's is not, but other demands can number the terms so that more of the forms are the same.)
func (k *check) isAbove(part []int) bool {
	_, err := prep.Goal(k.alone(part))
	return err != api.OK
}

// plainly does what needed does, by asking of each part alone: one that is above a limit counts as one that can be true, so that what was needed once may not be later.
func (k *check) plainly(mustStay func(number int) bool) []int {
	var free []int
	for number := range k.roots {
		if !mustStay(number) {
			free = append(free, number)
		}
	}
	for at := len(free) - 1; at >= 0; at-- {
		fewer := slices.Delete(slices.Clone(free), at, at+1)
		can, _, _, err := decide.Terms(k.alone(k.part(mustStay, fewer)))
		if err == api.OK && !can {
			free = fewer
			at = len(free)
		}
	}
	return free
}

// again asks of the demands once more, with all that the check has found out.
func (k *check) again() *quest.Quest {
	g, _ := prep.Goal(k.bank, k.roots)
	q := quest.New(g)
	for _, step := range k.proof.Steps {
		q.Know(step.Lits)
	}
	return q
}

// shrink tells which of some literals are needed, so that with those that stay they cannot all be true. All together they cannot.
func shrink(q *quest.Quest, stay, free []int) []int {
	var needed []int
	for len(free) > 0 {
		last := free[len(free)-1]
		free = free[:len(free)-1]
		answer := q.Ask(slices.Concat(stay, needed, free))
		if answer.Sat {
			needed = append(needed, last)
			continue
		}
		free = slices.DeleteFunc(free, func(lit int) bool { return !slices.Contains(answer.Failed, lit) })
	}
	return needed
}
