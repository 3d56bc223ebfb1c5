package simplex

import "arbiter/rat"

// amount is a kind of number that adds up and can be taken a rational number of times.
type amount[N any] interface {
	Add(N) N
	Mul(rat.Rat) N
	Sign() int
}

// sparse is a number for each variable, of which all but some are 0: those that are not are kept.
type sparse[N amount[N]] struct {
	of map[int]N
}

func newSparse[N amount[N]]() sparse[N] {
	return sparse[N]{map[int]N{}}
}

// add adds n to the number of v, and tells whether that is not 0 then.
func (s sparse[N]) add(v int, n N) bool {
	if old, ok := s.of[v]; ok {
		n = old.Add(n)
	}
	if n.Sign() == 0 {
		delete(s.of, v)
		return false
	}
	s.of[v] = n
	return true
}

// addTimes adds the numbers of another, each taken c times.
func (s sparse[N]) addTimes(other sparse[N], c rat.Rat) {
	for v, n := range other.of {
		s.add(v, n.Mul(c))
	}
}

// scale takes each number c times; c must not be 0.
func (s sparse[N]) scale(c rat.Rat) {
	for v, n := range s.of {
		s.of[v] = n.Mul(c)
	}
}
