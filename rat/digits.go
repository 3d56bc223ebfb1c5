package rat

import (
	"cmp"
	"math/bits"
)

// karatsubaFrom is the length from which three products of halves are quicker than four.
const karatsubaFrom = 40

// trim takes the zeros at the top away, so that a number has just one list.
func trim(a []uint64) []uint64 {
	for len(a) > 0 && a[len(a)-1] == 0 {
		a = a[:len(a)-1]
	}
	return a
}

func compareDigits(a, b []uint64) int {
	if len(a) != len(b) {
		return cmp.Compare(len(a), len(b))
	}
	for i := len(a) - 1; i >= 0; i-- {
		if a[i] != b[i] {
			return cmp.Compare(a[i], b[i])
		}
	}
	return 0
}

func addDigits(a, b []uint64) []uint64 {
	if len(a) < len(b) {
		a, b = b, a
	}
	sum := make([]uint64, len(a)+1)
	copy(sum, a)
	addAt(sum, b, 0)
	return trim(sum)
}

// addAt adds b to sum from the digit at on; sum has room for what comes out.
func addAt(sum, b []uint64, at int) {
	var carry uint64
	for i, digit := range b {
		sum[at+i], carry = bits.Add64(sum[at+i], digit, carry)
	}
	for i := at + len(b); carry != 0; i++ {
		sum[i], carry = bits.Add64(sum[i], 0, carry)
	}
}

// subDigits tells a - b; b is not above a.
func subDigits(a, b []uint64) []uint64 {
	rest := make([]uint64, len(a))
	copy(rest, a)
	var borrow uint64
	for i, digit := range b {
		rest[i], borrow = bits.Sub64(rest[i], digit, borrow)
	}
	for i := len(b); borrow != 0; i++ {
		rest[i], borrow = bits.Sub64(rest[i], 0, borrow)
	}
	return trim(rest)
}

func mulDigits(a, b []uint64) []uint64 {
	if len(a) < len(b) {
		a, b = b, a
	}
	if len(b) < karatsubaFrom {
		return mulSchool(a, b)
	}
	half := (len(a) + 1) / 2
	if len(b) <= half {
		return mulLopsided(a, b, half)
	}
	lowA, highA := trim(a[:half]), a[half:]
	lowB, highB := trim(b[:half]), b[half:]
	low, high := mulDigits(lowA, lowB), mulDigits(highA, highB)
	both := mulDigits(addDigits(lowA, highA), addDigits(lowB, highB))
	middle := subDigits(subDigits(both, low), high)
	product := make([]uint64, len(a)+len(b))
	copy(product, low)
	copy(product[2*half:], high)
	addAt(product, middle, half)
	return trim(product)
}

// mulLopsided cuts the longer list alone: cutting the shorter one too would leave it no upper half.
func mulLopsided(a, b []uint64, half int) []uint64 {
	product := make([]uint64, len(a)+len(b))
	copy(product, mulDigits(trim(a[:half]), b))
	addAt(product, mulDigits(a[half:], b), half)
	return trim(product)
}

func mulSchool(a, b []uint64) []uint64 {
	product := make([]uint64, len(a)+len(b))
	for i, x := range a {
		product[i+len(b)] = addProduct(product[i:i+len(b)], b, x)
	}
	return trim(product)
}

// addProduct adds x times b to sum, which is as long as b, and tells the digit that is left over.
func addProduct(sum, b []uint64, x uint64) uint64 {
	var left uint64
	for i, y := range b {
		high, low := bits.Mul64(x, y)
		var carry uint64
		low, carry = bits.Add64(low, left, 0)
		high += carry
		sum[i], carry = bits.Add64(sum[i], low, 0)
		left = high + carry
	}
	return left
}

// divDigits tells the quotient and the remainder; b is not empty.
func divDigits(a, b []uint64) ([]uint64, []uint64) {
	if compareDigits(a, b) < 0 {
		return nil, a
	}
	if len(b) == 1 {
		quotient, rest := divByDigit(a, b[0])
		return quotient, trim([]uint64{rest})
	}
	return divLong(a, b)
}

func divByDigit(a []uint64, b uint64) ([]uint64, uint64) {
	quotient := make([]uint64, len(a))
	var rest uint64
	for i := len(a) - 1; i >= 0; i-- {
		quotient[i], rest = bits.Div64(rest, a[i], b)
	}
	return trim(quotient), rest
}

// divLong divides as by hand, a digit of the quotient at a time. The divisor is moved up until its top bit is set: then a guess from the top digits is at most two too high.
func divLong(a, b []uint64) ([]uint64, []uint64) {
	shift := bits.LeadingZeros64(b[len(b)-1])
	by := moveUp(b, shift)[:len(b)]
	rest := moveUp(a, shift)
	quotient := make([]uint64, len(a)-len(b)+1)
	for i := len(quotient) - 1; i >= 0; i-- {
		part := rest[i : i+len(by)+1]
		digit := guessDigit(part, by)
		borrow := subProduct(part, by, digit)
		for borrow != 0 {
			digit--
			borrow -= addBack(part, by)
		}
		quotient[i] = digit
	}
	return trim(quotient), moveDown(trim(rest), shift)
}

func guessDigit(part, by []uint64) uint64 {
	top := len(by)
	if part[top] >= by[top-1] {
		return ^uint64(0)
	}
	guess, _ := bits.Div64(part[top], part[top-1], by[top-1])
	return guess
}

// subProduct takes x times b from part, which is one digit longer than b, and tells what it had to borrow.
func subProduct(part, b []uint64, x uint64) uint64 {
	var left, borrow uint64
	for i, y := range b {
		high, low := bits.Mul64(x, y)
		var carry uint64
		low, carry = bits.Add64(low, left, 0)
		high += carry
		part[i], borrow = bits.Sub64(part[i], low, 0)
		left = high + borrow
	}
	part[len(b)], borrow = bits.Sub64(part[len(b)], left, 0)
	return borrow
}

func addBack(part, b []uint64) uint64 {
	var carry uint64
	for i, digit := range b {
		part[i], carry = bits.Add64(part[i], digit, carry)
	}
	part[len(b)], carry = bits.Add64(part[len(b)], 0, carry)
	return carry
}

// moveUp shifts by fewer bits than a digit has, into a list that is one digit longer.
func moveUp(a []uint64, shift int) []uint64 {
	moved := make([]uint64, len(a)+1)
	for i, digit := range a {
		moved[i] |= digit << shift
		moved[i+1] = digit >> (64 - shift)
	}
	return moved
}

func moveDown(a []uint64, shift int) []uint64 {
	moved := make([]uint64, len(a))
	for i, digit := range a {
		moved[i] |= digit >> shift
		if i > 0 {
			moved[i-1] |= digit << (64 - shift)
		}
	}
	return trim(moved)
}
