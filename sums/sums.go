// Package sums tells terms of arithmetic as sums of multiples of those terms in them that are no arithmetic.
package sums

import (
	"slices"

	"arbiter/api"
	"arbiter/rat"
)

// Share is a term and how many times it is taken.
type Share struct {
	Of    int
	Times rat.Rat
}

// Sum is shares of terms that are no arithmetic, in rising order of the terms, none of them taken 0 times, and a number.
type Sum struct {
	Shares []Share
	Number rat.Rat
}

// Book tells the sums of a bank's terms of sort Real, and remembers some.
type Book struct {
	terms []api.Term
	kept  map[int]Sum
}

// New is a book over the terms of a bank, which must not change while it is asked.
func New(terms []api.Term) *Book {
	return &Book{terms, map[int]Sum{}}
}

// Of tells the sum that a term is.
func (b *Book) Of(t int) Sum {
	if s, ok := b.kept[t]; ok {
		return s
	}
	s, takes := b.gather(Share{t, one()})
	// What is short, and was long to find, is kept, so that greater sums are found from it; sums that are long themselves would fill the memory.
	if 4*len(s.Shares) < takes {
		b.kept[t] = s
	}
	return s
}

// Difference tells what t less u is. Of terms that have much in common it is found without going into that.
func (b *Book) Difference(t, u int) Sum {
	if b.terms[t].Op != api.OpNum && b.terms[u].Op != api.OpNum {
		s, _ := b.gather(Share{t, one()}, Share{u, one().Neg()})
		return s
	}
	return plus(b.Of(t), negated(b.Of(u)))
}

// plus adds sums of which at most one has shares.
func plus(a, b Sum) Sum {
	return Sum{append(slices.Clip(a.Shares), b.Shares...), a.Number.Add(b.Number)}
}

func negated(a Sum) Sum {
	out := Sum{Number: a.Number.Neg()}
	for _, s := range a.Shares {
		out.Shares = append(out.Shares, Share{s.Of, s.Times.Neg()})
	}
	return out
}

// gather adds shares of any terms up, and tells too how many shares it has taken for that.
func (b *Book) gather(shares ...Share) (Sum, int) {
	p := newPile(shares)
	var numbers []rat.Rat
	var found []Share
	for t, times := range p.fall() {
		if s, ok := b.kept[t]; ok {
			p.take(times, s.Shares)
			numbers = append(numbers, times.Mul(s.Number))
			continue
		}
		switch v := b.terms[t]; {
		case v.Op == api.OpNum:
			numbers = append(numbers, times.Mul(b.number(t)))
		case isArithmetic(v.Op):
			p.take(times, b.parts(v))
		default:
			found = append(found, Share{t, times})
		}
	}
	slices.Reverse(found)
	return Sum{found, rat.Sum(numbers...)}, p.takes
}

func isArithmetic(op int) bool {
	return op >= api.OpAdd && op <= api.OpDiv
}

func one() rat.Rat {
	return rat.Whole(false, rat.Word(1))
}

// number tells what an OpNum is.
func (b *Book) number(t int) rat.Rat {
	q, _ := rat.Parse(b.terms[t].Num)
	return q
}

// product multiplies OpNums with one another.
func (b *Book) product(terms []int) rat.Rat {
	var numbers []rat.Rat
	for _, t := range terms {
		numbers = append(numbers, b.number(t))
	}
	return rat.Product(numbers...)
}

// parts tells of which shares a term of arithmetic is the sum.
func (b *Book) parts(v api.Term) []Share {
	switch v.Op {
	case api.OpMul:
		return b.factor(v.Args)
	case api.OpDiv:
		return []Share{{v.Args[0], one().Quo(b.product(v.Args[1:]))}}
	case api.OpSub:
		if len(v.Args) > 1 {
			return append(each(v.Args[:1], one()), each(v.Args[1:], one().Neg())...)
		}
		return each(v.Args, one().Neg())
	}
	return each(v.Args, one())
}

func each(terms []int, times rat.Rat) []Share {
	var list []Share
	for _, t := range terms {
		list = append(list, Share{t, times})
	}
	return list
}

// factor parts the only argument that is no number from the others: were all of them numbers, the product would have been folded.
func (b *Book) factor(args []int) []Share {
	at := slices.IndexFunc(args, func(a int) bool { return b.terms[a].Op != api.OpNum })
	numbers := slices.Delete(slices.Clone(args), at, at+1)
	return []Share{{args[at], b.product(numbers)}}
}
