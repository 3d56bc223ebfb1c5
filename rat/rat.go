package rat

import "strings"

// Rat is a rational in lowest terms. The zero value is the number 0.
type Rat struct {
	neg bool // never of 0
	n   Nat
	d   Nat // 0 where the number is whole, so that the zero value needs no making
}

// Of makes the rational n/d, or its opposite; d must not be 0.
func Of(neg bool, n, d Nat) Rat {
	common := n.Gcd(d)
	return lowest(neg, n.over(common), d.over(common))
}

// Whole makes the rational n, or its opposite.
func Whole(neg bool, n Nat) Rat {
	return Rat{neg: neg && !n.IsZero(), n: n}
}

// lowest makes a rational of parts that have no common divisor.
func lowest(neg bool, n, d Nat) Rat {
	if n.IsZero() || d.IsOne() {
		return Whole(neg, n)
	}
	return Rat{neg: neg, n: n, d: d}
}

// Parse reads a canonical text, and tells whether it is one.
func Parse(text string) (Rat, bool) {
	size := strings.TrimPrefix(text, "-")
	neg := len(size) < len(text)
	upper, lower, slash := strings.Cut(size, "/")
	if !isNumeral(upper) || neg && upper == "0" {
		return Rat{}, false
	}
	n := ParseNat(upper)
	if !slash {
		return Whole(neg, n), true
	}
	if !isNumeral(lower) || lower == "0" || lower == "1" {
		return Rat{}, false
	}
	d := ParseNat(lower)
	if !n.Gcd(d).IsOne() {
		return Rat{}, false
	}
	return Rat{neg: neg, n: n, d: d}, true
}

func isNumeral(text string) bool {
	if text == "" || text[0] == '0' && len(text) > 1 {
		return false
	}
	for i := range len(text) {
		if text[i] < '0' || text[i] > '9' {
			return false
		}
	}
	return true
}

// Text tells the canonical text.
func (a Rat) Text() string {
	text := a.n.Text()
	if a.neg {
		text = "-" + text
	}
	if !a.IsWhole() {
		text += "/" + a.d.Text()
	}
	return text
}

// Upper tells the numerator without its sign.
func (a Rat) Upper() Nat {
	return a.n
}

// Lower tells the denominator.
func (a Rat) Lower() Nat {
	if a.IsWhole() {
		return Word(1)
	}
	return a.d
}

// IsWhole tells whether the denominator is 1.
func (a Rat) IsWhole() bool {
	return a.d.IsZero()
}

// Sign tells -1, 0 or 1, as a is below, equal to or above 0.
func (a Rat) Sign() int {
	if a.neg {
		return -1
	}
	if a.n.IsZero() {
		return 0
	}
	return 1
}

// Neg tells the opposite of a.
func (a Rat) Neg() Rat {
	a.neg = !a.neg && !a.n.IsZero()
	return a
}

// Add tells a + b.
func (a Rat) Add(b Rat) Rat {
	switch {
	case a.n.IsZero():
		return b
	case b.n.IsZero():
		return a
	case a.IsWhole() && b.IsWhole():
		return Whole(addSigned(a.neg, a.n, b.neg, b.n))
	}
	lowerA, lowerB := a.Lower(), b.Lower()
	common := lowerA.Gcd(lowerB)
	restA, restB := lowerA.over(common), lowerB.over(common)
	neg, sum := addSigned(a.neg, a.n.Mul(restB), b.neg, b.n.Mul(restA))
	// What divides the sum and the product of the denominators divides what these have in common.
	again := sum.Gcd(common)
	return lowest(neg, sum.over(again), restA.Mul(lowerB.over(again)))
}

func addSigned(negA bool, a Nat, negB bool, b Nat) (bool, Nat) {
	if negA == negB {
		return negA, a.Add(b)
	}
	if a.Cmp(b) >= 0 {
		return negA, a.Sub(b)
	}
	return negB, b.Sub(a)
}

// Sub tells a - b.
func (a Rat) Sub(b Rat) Rat {
	return a.Add(b.Neg())
}

// Mul tells a times b.
func (a Rat) Mul(b Rat) Rat {
	neg := a.neg != b.neg
	switch {
	case a.n.IsZero() || b.n.IsZero():
		return Rat{}
	case a.IsWhole() && b.IsWhole():
		return Whole(neg, a.n.Mul(b.n))
	}
	lowerA, lowerB := a.Lower(), b.Lower()
	crossA, crossB := a.n.Gcd(lowerB), b.n.Gcd(lowerA)
	upper := a.n.over(crossA).Mul(b.n.over(crossB))
	return lowest(neg, upper, lowerA.over(crossB).Mul(lowerB.over(crossA)))
}

// Quo tells a divided by b; b must not be 0.
func (a Rat) Quo(b Rat) Rat {
	return a.Mul(lowest(b.neg, b.Lower(), b.n))
}

// Cmp tells -1, 0 or 1, as a is below, equal to or above b.
func (a Rat) Cmp(b Rat) int {
	if a.neg != b.neg {
		if a.neg {
			return -1
		}
		return 1
	}
	order := a.compareSizes(b)
	if a.neg {
		return -order
	}
	return order
}

func (a Rat) compareSizes(b Rat) int {
	if a.IsWhole() && b.IsWhole() {
		return a.n.Cmp(b.n)
	}
	return a.n.Mul(b.Lower()).Cmp(b.n.Mul(a.Lower()))
}

// Floor tells the greatest whole number that is not above a.
func (a Rat) Floor() Rat {
	quotient, rest := a.n.DivMod(a.Lower())
	if a.neg && !rest.IsZero() {
		quotient = quotient.Add(Word(1))
	}
	return Whole(a.neg, quotient)
}

// Sum adds numbers up; of none it is 0.
func Sum(numbers ...Rat) Rat {
	if len(numbers) == 0 {
		return Rat{}
	}
	return gather(Rat.Add, numbers)
}

// Product multiplies numbers with one another; of none it is 1.
func Product(numbers ...Rat) Rat {
	if len(numbers) == 0 {
		return Whole(false, Word(1))
	}
	return gather(Rat.Mul, numbers)
}

// gather takes halves together, not one number after the other: so the long numbers are few.
func gather(step func(a, b Rat) Rat, numbers []Rat) Rat {
	if len(numbers) == 1 {
		return numbers[0]
	}
	half := len(numbers) / 2
	return step(gather(step, numbers[:half]), gather(step, numbers[half:]))
}
