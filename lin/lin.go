// Package lin: linear forms, constraints, numbers with an infinitely small part: see DOC.md.
package lin

import (
	"cmp"
	"slices"

	"arbiter/api"
)

// Form makes a linear form of monomials in any order.
func Form(m []api.Mono, k string) (api.Lin, api.Errno) {
	if err := first(checkMonos(m), checkNumbers(k)); err != api.OK {
		return api.Lin{}, err
	}
	s := newSum()
	s.take(m, k, one)
	return s.form(), api.OK
}

// Add tells f + g.
func Add(f, g api.Lin) (api.Lin, api.Errno) {
	if err := first(Check(f), Check(g)); err != api.OK {
		return api.Lin{}, err
	}
	return plus(f, g), api.OK
}

// Scale tells c times f.
func Scale(f api.Lin, c string) (api.Lin, api.Errno) {
	if err := first(Check(f), checkNumbers(c)); err != api.OK {
		return api.Lin{}, err
	}
	return times(f, number{c}), api.OK
}

// Subst puts g in the place of the variable v.
func Subst(f api.Lin, v int, g api.Lin) (api.Lin, api.Errno) {
	if err := first(Check(f), checkVar(v), Check(g)); err != api.OK {
		return api.Lin{}, err
	}
	return put(f, v, g), api.OK
}

// Solve tells what the variable v is wherever f is 0.
func Solve(f api.Lin, v int) (api.Lin, api.Errno) {
	if err := first(Check(f), checkVar(v)); err != api.OK {
		return api.Lin{}, err
	}
	if coef(f, v) == zero {
		return api.Lin{}, api.ErrGone
	}
	return solved(f, v), api.OK
}

// Value tells what f is where the variable i is at[i].
func Value(f api.Lin, at []string) (string, api.Errno) {
	if err := first(Check(f), checkNumbers(at...)); err != api.OK {
		return "", err
	}
	return value(f, pointAt(at)).text, api.OK
}

// sum is a form that is being gathered.
type sum struct {
	coefs map[int]number
	k     number
}

func newSum() *sum {
	return &sum{map[int]number{}, zero}
}

// take adds c times the monomials and k.
func (s *sum) take(m []api.Mono, k string, c number) {
	for _, mono := range m {
		more := c.times(number{mono.C})
		if old, ok := s.coefs[mono.V]; ok {
			more = old.plus(more)
		}
		s.coefs[mono.V] = more
	}
	s.k = s.k.plus(c.times(number{k}))
}

func (s *sum) form() api.Lin {
	f := api.Lin{K: s.k.text}
	for _, v := range sortedKeys(s.coefs) {
		if c := s.coefs[v]; c != zero {
			f.M = append(f.M, api.Mono{V: v, C: c.text})
		}
	}
	return f
}

func sortedKeys[K cmp.Ordered, V any](m map[K]V) []K {
	keys := make([]K, 0, len(m))
	for key := range m {
		keys = append(keys, key)
	}
	slices.Sort(keys)
	return keys
}

func nought() api.Lin {
	return api.Lin{K: zero.text}
}

func plus(f, g api.Lin) api.Lin {
	s := newSum()
	s.take(f.M, f.K, one)
	s.take(g.M, g.K, one)
	return s.form()
}

func times(f api.Lin, c number) api.Lin {
	s := newSum()
	s.take(f.M, f.K, c)
	return s.form()
}

// again tells f in memory of its own.
func again(f api.Lin) api.Lin {
	return api.Lin{M: append([]api.Mono(nil), f.M...), K: f.K}
}

// coef tells the coefficient of v in f, which is 0 where v is not there.
func coef(f api.Lin, v int) number {
	i, ok := find(f, v)
	if !ok {
		return zero
	}
	return number{f.M[i].C}
}

func find(f api.Lin, v int) (int, bool) {
	return slices.BinarySearchFunc(f.M, v, func(mono api.Mono, v int) int { return cmp.Compare(mono.V, v) })
}

// without tells f without its monomial of v.
func without(f api.Lin, v int) api.Lin {
	g := again(f)
	if i, ok := find(g, v); ok {
		g.M = slices.Delete(g.M, i, i+1)
	}
	return g
}

func put(f api.Lin, v int, g api.Lin) api.Lin {
	c := coef(f, v)
	if c == zero {
		return again(f)
	}
	return plus(without(f, v), times(g, c))
}

// solved tells what v is where f is 0; v stands in f.
func solved(f api.Lin, v int) api.Lin {
	return times(without(f, v), one.opposite().over(coef(f, v)))
}

// point tells what a variable is worth.
type point func(v int) number

func pointAt(at []string) point {
	return func(v int) number {
		if v < len(at) {
			return number{at[v]}
		}
		return zero
	}
}

func value(f api.Lin, at point) number {
	total := number{f.K}
	for _, mono := range f.M {
		total = total.plus(number{mono.C}.times(at(mono.V)))
	}
	return total
}
