package sums

import (
	"container/heap"
	"iter"

	"arbiter/rat"
)

// pile is how many times terms are still to be taken.
type pile struct {
	times map[int]rat.Rat
	terms falling // the keys of times
	takes int
}

func newPile(shares []Share) *pile {
	p := &pile{times: map[int]rat.Rat{}}
	p.take(one(), shares)
	return p
}

// take puts so many times the shares onto the pile.
func (p *pile) take(times rat.Rat, shares []Share) {
	p.takes += len(shares)
	for _, s := range shares {
		old, ok := p.times[s.Of]
		if !ok {
			heap.Push(&p.terms, s.Of)
		}
		p.times[s.Of] = old.Add(times.Mul(s.Times))
	}
}

// fall takes the terms from the pile, the last of the bank first, while others are put onto it. A term stands behind all that it is made of: so all that it is part of has been gone through when its turn comes. What comes to 0 times is left out, with all that it is made of.
func (p *pile) fall() iter.Seq2[int, rat.Rat] {
	return func(yield func(int, rat.Rat) bool) {
		for len(p.terms) > 0 {
			t, _ := heap.Pop(&p.terms).(int)
			times := p.times[t]
			delete(p.times, t)
			if times.Sign() != 0 && !yield(t, times) {
				return
			}
		}
	}
}

// falling is a heap with the greatest number on top.
type falling []int

func (f falling) Len() int           { return len(f) }
func (f falling) Less(i, j int) bool { return f[i] > f[j] }
func (f falling) Swap(i, j int)      { f[i], f[j] = f[j], f[i] }

// Push puts a number behind the others.
func (f *falling) Push(x any) {
	if n, ok := x.(int); ok {
		*f = append(*f, n)
	}
}

// Pop takes the last number away.
func (f *falling) Pop() any {
	last := len(*f) - 1
	n := (*f)[last]
	*f = (*f)[:last]
	return n
}
