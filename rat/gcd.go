package rat

import "math/bits"

func gcdWords(a, b uint64) uint64 {
	if a == 0 || b == 0 {
		return a | b
	}
	twos := bits.TrailingZeros64(a | b)
	a >>= bits.TrailingZeros64(a)
	for b != 0 {
		b >>= bits.TrailingZeros64(b)
		if a > b {
			a, b = b, a
		}
		b -= a
	}
	return a << twos
}

// gcdDigits goes by Lehmer's way: as long as the quotients can be told from the top digits alone, many steps of Euclid are made on these, and then on the whole lists at once.
func gcdDigits(a, b []uint64) []uint64 {
	if compareDigits(a, b) < 0 {
		a, b = b, a
	}
	// Two pairs of lists take turns: one is read while the other is written.
	readA, readB := make([]uint64, len(a)), make([]uint64, len(a))
	writeA, writeB := make([]uint64, len(a)), make([]uint64, len(a))
	for len(b) > 1 {
		s := simulate(a, b)
		if s.v0 == 0 {
			_, rest := divDigits(a, b)
			a, b = b, rest
			continue
		}
		nextA, nextB := writeA[:len(a)], writeB[:len(a)]
		s.apply(nextA, nextB, a, b)
		readA, readB, writeA, writeB = writeA, writeB, readA, readB
		a, b = trim(nextA), trim(nextB)
	}
	return gcdWithWord(a, b)
}

// gcdWithWord ends the reckoning once b has at most one digit.
func gcdWithWord(a, b []uint64) []uint64 {
	if len(b) == 0 {
		return a
	}
	_, rest := divByDigit(a, b[0])
	return []uint64{gcdWords(b[0], rest)}
}

// steps is what some steps of Euclid come to: a becomes u0·a - v0·b and b becomes v1·b - u1·a; where even is false, all signs are turned.
type steps struct {
	u0, u1, v0, v1 uint64
	even           bool
}

func (s steps) apply(nextA, nextB, a, b []uint64) {
	if s.even {
		difference(nextA, a, b, s.u0, s.v0)
		difference(nextB, b, a, s.v1, s.u1)
	} else {
		difference(nextA, b, a, s.v0, s.u0)
		difference(nextB, a, b, s.u1, s.v1)
	}
}

// simulate makes steps on the top 64 bits while Collins's condition holds, under which the quotients are those of the whole numbers. b has at least two digits and is not above a.
func simulate(a, b []uint64) steps {
	x, y := tops(a, b)
	s := steps{u1: 1}
	var u2, v2 uint64 = 0, 1
	for y >= v2 && x-y >= s.v1+v2 {
		q := x / y
		x, y = y, x-q*y
		s.u0, s.u1, u2 = s.u1, u2, s.u1+q*u2
		s.v0, s.v1, v2 = s.v1, v2, s.v1+q*v2
		s.even = !s.even
	}
	return s
}

// tops tells the first 64 bits of a, and those of b that stand in the same places.
func tops(a, b []uint64) (uint64, uint64) {
	n := len(a)
	shift := bits.LeadingZeros64(a[n-1])
	x := a[n-1]<<shift | a[n-2]>>(64-shift)
	switch n - len(b) {
	case 0:
		return x, b[n-1]<<shift | b[n-2]>>(64-shift)
	case 1:
		return x, b[n-2] >> (64 - shift)
	}
	return x, 0
}

// difference writes x·a - y·b, which is not below 0, into out.
func difference(out, a, b []uint64, x, y uint64) {
	var leftA, leftB, borrow, carry uint64
	for i := range len(out) {
		highA, lowA := bits.Mul64(digitAt(a, i), x)
		highB, lowB := bits.Mul64(digitAt(b, i), y)
		lowA, carry = bits.Add64(lowA, leftA, 0)
		leftA = highA + carry
		lowB, carry = bits.Add64(lowB, leftB, 0)
		leftB = highB + carry
		out[i], borrow = bits.Sub64(lowA, lowB, borrow)
	}
}

func digitAt(a []uint64, i int) uint64 {
	if i < len(a) {
		return a[i]
	}
	return 0
}
