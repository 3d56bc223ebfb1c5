package term

import (
	"slices"

	"arbiter/api"
	"arbiter/lin"
	"arbiter/rat"
	"arbiter/walk"
)

func (b *Bank) args(t int) []int {
	return b.terms[t].Args
}

// Reach tells all terms that the roots need, rising.
func (b *Bank) Reach(roots []int) ([]int, api.Errno) {
	if !b.has(roots...) {
		return nil, api.ErrIndex
	}
	return slices.Sorted(walk.Up(roots, b.args)), api.OK
}

// down goes through t and what it is made of, each term ahead of its parts.
func down(t int, parts func(t int) []int) []int {
	order := slices.Collect(walk.Up([]int{t}, parts))
	slices.Reverse(order)
	return order
}

// Weight tells how many terms a term is, each counted as often as it stands in it.
func (b *Bank) Weight(t int) (string, api.Errno) {
	if !b.has(t) {
		return "", api.ErrIndex
	}
	// How often a term stands in t is known when all that it stands in have been gone through. What is counted is let go of, since it can be as long as there are terms.
	times := map[int]rat.Nat{t: rat.Word(1)}
	var total rat.Nat
	for _, u := range down(t, b.args) {
		count := times[u]
		delete(times, u)
		total = total.Add(count)
		for _, a := range b.terms[u].Args {
			times[a] = times[a].Add(count)
		}
	}
	return total.Text(), api.OK
}

// Lin tells a term of sort Real as a linear form over the terms in it that are no arithmetic.
func (b *Bank) Lin(t int) (api.Lin, api.Errno) {
	if !b.has(t) {
		return api.Lin{}, api.ErrIndex
	}
	if b.terms[t].Sort != api.SortReal {
		return api.Lin{}, api.ErrSort
	}
	times := map[int]rat.Rat{t: rat.Whole(false, rat.Word(1))}
	var monos []api.Mono
	var constant rat.Rat
	for _, u := range down(t, b.summands) {
		count := times[u]
		delete(times, u)
		switch op := b.terms[u].Op; {
		case count.Sign() == 0:
		case op == api.OpNum:
			constant = constant.Add(count.Mul(b.number(u)))
		case isArithmetic(op):
			for _, s := range b.shares(u) {
				times[s.of] = times[s.of].Add(count.Mul(s.times))
			}
		default:
			monos = append(monos, api.Mono{V: u, C: count.Text()})
		}
	}
	return lin.Form(monos, constant.Text())
}

// summands tells what a linear form looks into.
func (b *Bank) summands(t int) []int {
	if isArithmetic(b.terms[t].Op) {
		return b.terms[t].Args
	}
	return nil
}

// share is a term and how many times it is taken.
type share struct {
	of    int
	times rat.Rat
}

// shares tells of which terms, and how many times each, a term of arithmetic is the sum.
func (b *Bank) shares(t int) []share {
	args := b.terms[t].Args
	one := rat.Whole(false, rat.Word(1))
	var list []share
	switch op := b.terms[t].Op; op {
	case api.OpMul:
		return b.product(args)
	case api.OpDiv:
		by := b.fold(api.OpMul, args[1:])
		return []share{{args[0], one.Quo(by)}}
	case api.OpSub:
		if len(args) == 1 {
			return []share{{args[0], one.Neg()}}
		}
		list = append(list, share{args[0], one})
		for _, a := range args[1:] {
			list = append(list, share{a, one.Neg()})
		}
	default:
		for _, a := range args {
			list = append(list, share{a, one})
		}
	}
	return list
}

// product parts the only argument that is no number from the others: were all of them numbers, the product would have been folded.
func (b *Bank) product(args []int) []share {
	at := slices.IndexFunc(args, func(a int) bool { return !b.isNum(a) })
	numbers := slices.Delete(again(args), at, at+1)
	return []share{{args[at], b.fold(api.OpMul, numbers)}}
}
