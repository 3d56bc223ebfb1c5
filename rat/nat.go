// Package rat reckons exactly, for the layers that need numbers and not their texts: whole numbers of any length and pairs of them.
package rat

import (
	"cmp"
	"math/bits"
)

// Nat is a whole number from 0 on. Nearly all numbers of a script fit into one word: these need no list.
type Nat struct {
	word uint64
	long []uint64 // digits to the base 2^64, the lowest first, two or more; nil where the word is the number. Never changed once it is made.
}

// Word makes a Nat of a machine word.
func Word(n uint64) Nat {
	return Nat{word: n}
}

func natOf(digits []uint64) Nat {
	switch len(digits) {
	case 0:
		return Nat{}
	case 1:
		return Nat{word: digits[0]}
	}
	return Nat{long: digits}
}

func (a Nat) digits() []uint64 {
	if a.long != nil {
		return a.long
	}
	return trim([]uint64{a.word})
}

func short(a, b Nat) bool {
	return a.long == nil && b.long == nil
}

// IsZero tells whether a is 0.
func (a Nat) IsZero() bool {
	return a.long == nil && a.word == 0
}

// IsOne tells whether a is 1.
func (a Nat) IsOne() bool {
	return a.long == nil && a.word == 1
}

// Cmp tells -1, 0 or 1, as a is below, equal to or above b.
func (a Nat) Cmp(b Nat) int {
	if short(a, b) {
		return cmp.Compare(a.word, b.word)
	}
	return compareDigits(a.digits(), b.digits())
}

// Add tells a + b.
func (a Nat) Add(b Nat) Nat {
	if short(a, b) {
		if sum, carry := bits.Add64(a.word, b.word, 0); carry == 0 {
			return Nat{word: sum}
		}
	}
	return natOf(addDigits(a.digits(), b.digits()))
}

// Sub tells a - b; b must not be above a.
func (a Nat) Sub(b Nat) Nat {
	if short(a, b) {
		return Nat{word: a.word - b.word}
	}
	return natOf(subDigits(a.digits(), b.digits()))
}

// Mul tells a times b.
func (a Nat) Mul(b Nat) Nat {
	if short(a, b) {
		if high, low := bits.Mul64(a.word, b.word); high == 0 {
			return Nat{word: low}
		}
	}
	return natOf(mulDigits(a.digits(), b.digits()))
}

// DivMod tells the quotient and the remainder; b must not be 0.
func (a Nat) DivMod(b Nat) (Nat, Nat) {
	if short(a, b) {
		return Nat{word: a.word / b.word}, Nat{word: a.word % b.word}
	}
	quotient, rest := divDigits(a.digits(), b.digits())
	return natOf(quotient), natOf(rest)
}

func (a Nat) over(b Nat) Nat {
	if b.IsOne() {
		return a
	}
	quotient, _ := a.DivMod(b)
	return quotient
}

// Gcd tells the greatest common divisor; that of a and 0 is a.
func (a Nat) Gcd(b Nat) Nat {
	if short(a, b) {
		return Nat{word: gcdWords(a.word, b.word)}
	}
	if a.IsZero() || b.IsOne() {
		return b
	}
	if b.IsZero() || a.IsOne() {
		return a
	}
	return natOf(gcdDigits(a.digits(), b.digits()))
}

// Pow tells a, taken n times as a factor.
func (a Nat) Pow(n int) Nat {
	power := Word(1)
	for bit := bits.Len(uint(n)) - 1; bit >= 0; bit-- {
		power = power.Mul(power)
		if n>>bit&1 == 1 {
			power = power.Mul(a)
		}
	}
	return power
}

// Strip divides a, which must not be 0, by the factor as often as it goes, and tells what is left and how often; the factor must be above 1.
func (a Nat) Strip(factor Nat) (Nat, int) {
	// Taken by squares of squares, a power of any length is gone after a few divisions.
	var powers []Nat
	for power := factor; power.Cmp(a) <= 0; power = power.Mul(power) {
		powers = append(powers, power)
	}
	count := 0
	for i := len(powers) - 1; i >= 0; i-- {
		if quotient, rest := a.DivMod(powers[i]); rest.IsZero() {
			a = quotient
			count += 1 << i
		}
	}
	return a, count
}
