package term

import (
	"slices"

	"arbiter/api"
	"arbiter/rat"
	"arbiter/sums"
	"arbiter/walk"
)

func (b *Bank) args(t int) []int {
	return b.terms[t].Args
}

// Reach tells all terms that the roots need, rising.
func (b *Bank) Reach(roots []int) ([]int, api.Errno) {
	if !b.has(roots...) {
		return nil, api.ErrIndex
	}
	return slices.Sorted(walk.Up(roots, b.args)), api.OK
}

// down goes through t and what it is made of, each term ahead of its parts.
func down(t int, parts func(t int) []int) []int {
	order := slices.Collect(walk.Up([]int{t}, parts))
	slices.Reverse(order)
	return order
}

// Weight tells how many terms a term is, each counted as often as it stands in it.
func (b *Bank) Weight(t int) (string, api.Errno) {
	if !b.has(t) {
		return "", api.ErrIndex
	}
	// How often a term stands in t is known when all that it stands in have been gone through. What is counted is let go of, since it can be as long as there are terms.
	times := map[int]rat.Nat{t: rat.Word(1)}
	var total rat.Nat
	for _, u := range down(t, b.args) {
		count := times[u]
		delete(times, u)
		total = total.Add(count)
		for _, a := range b.terms[u].Args {
			times[a] = times[a].Add(count)
		}
	}
	return total.Text(), api.OK
}

// Lin tells a term of sort Real as a linear form over the terms in it that are no arithmetic.
func (b *Bank) Lin(t int) (api.Lin, api.Errno) {
	if !b.has(t) {
		return api.Lin{}, api.ErrIndex
	}
	if b.terms[t].Sort != api.SortReal {
		return api.Lin{}, api.ErrSort
	}
	sum := sums.New(b.terms).Of(t)
	var monos []api.Mono
	for _, s := range sum.Shares {
		monos = append(monos, api.Mono{V: s.Of, C: s.Times.Text()})
	}
	return api.Lin{M: monos, K: sum.Number.Text()}, api.OK
}
