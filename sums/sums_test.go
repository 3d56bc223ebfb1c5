package sums_test

import (
	"math/rand"
	"slices"
	"testing"

	"arbiter/api"
	"arbiter/rat"
	"arbiter/sums"
	"arbiter/term"
)

// bank is three constants and terms of arithmetic over them, by chance.
func bank(rng *rand.Rand, size int) []api.Term {
	b := term.New()
	for range 3 {
		fun, _ := b.Fun("x", nil, api.SortReal)
		b.App(fun, nil)
	}
	for _, text := range []string{"0", "2", "-1/3"} {
		b.Num(text)
	}
	for b.Size() < size {
		var args []int
		for range 1 + rng.Intn(4) {
			// Mostly of the last terms, so that they nest.
			args = append(args, max(rng.Intn(b.Size()), b.Size()-1-rng.Intn(8)*rng.Intn(8)))
		}
		b.Op(api.OpAdd+rng.Intn(4), args)
	}
	return b.Export().Terms
}

// plain tells the sum of a term by going down all of it: by constant, and at 3 the number.
func plain(terms []api.Term, t int) [4]rat.Rat {
	one := rat.Whole(false, rat.Word(1))
	var out [4]rat.Rat
	add := func(times rat.Rat, part [4]rat.Rat) {
		for i := range out {
			out[i] = out[i].Add(times.Mul(part[i]))
		}
	}
	args := terms[t].Args
	switch op := terms[t].Op; op {
	case api.OpApp:
		out[terms[t].Fun] = one
	case api.OpNum:
		out[3], _ = rat.Parse(terms[t].Num)
	case api.OpAdd, api.OpSub:
		for i, a := range args {
			if op == api.OpSub && (i > 0 || len(args) == 1) {
				add(one.Neg(), plain(terms, a))
			} else {
				add(one, plain(terms, a))
			}
		}
	default:
		at := max(0, slices.IndexFunc(args, func(a int) bool { return terms[a].Op != api.OpNum }))
		times := one
		for i, a := range args {
			if i == at {
				continue
			}
			q, _ := rat.Parse(terms[a].Num)
			if op == api.OpMul {
				times = times.Mul(q)
			} else {
				times = times.Quo(q)
			}
		}
		add(times, plain(terms, args[at]))
	}
	return out
}

// laid tells a sum as plain does, and whether its shares rise and none is 0.
func laid(s sums.Sum) ([4]rat.Rat, bool) {
	out := [4]rat.Rat{3: s.Number}
	for i, share := range s.Shares {
		if share.Times.Sign() == 0 || i > 0 && share.Of <= s.Shares[i-1].Of {
			return out, false
		}
		out[share.Of] = share.Times
	}
	return out, true
}

func same(a, b [4]rat.Rat) bool {
	return slices.EqualFunc(a[:], b[:], func(x, y rat.Rat) bool { return x.Cmp(y) == 0 })
}

func TestSums(t *testing.T) {
	for seed := range int64(300) {
		rng := rand.New(rand.NewSource(seed))
		terms := bank(rng, 16)
		book := sums.New(terms)
		for range 2 { // what is kept is told again
			for u := range terms {
				want := plain(terms, u)
				if got, ok := laid(book.Of(u)); !ok || !same(got, want) {
					t.Fatalf("the sum of the term %d of %v: %v", u, terms, got)
				}
				v := rng.Intn(len(terms))
				less := plain(terms, v)
				for i := range want {
					want[i] = want[i].Sub(less[i])
				}
				if got, ok := laid(book.Difference(u, v)); !ok || !same(got, want) {
					t.Fatalf("%d less %d of %v: %v", u, v, terms, got)
				}
			}
		}
	}
}

// A book that was asked before tells the same as a new one, and what it has told stays.
func TestWhatIsKept(t *testing.T) {
	rng := rand.New(rand.NewSource(7))
	terms := bank(rng, 300)
	book := sums.New(terms)
	var told []sums.Sum
	for u := range terms {
		told = append(told, book.Of(u))
		book.Difference(u, 3)
		book.Difference(4, u)
		book.Difference(u, rng.Intn(u+1))
	}
	for u := range terms {
		got, _ := laid(told[u])
		if want, ok := laid(sums.New(terms).Of(u)); !ok || !same(got, want) {
			t.Fatalf("the sum of the term %d: %v, of a new book %v", u, got, want)
		}
	}
}
