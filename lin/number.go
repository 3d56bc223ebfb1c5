package lin

import (
	"arbiter/api"
	"arbiter/num"
)

// number is a canonical text. What num refuses cannot come up here, since every number is looked at when it comes in.
type number struct {
	text string
}

var zero = number{"0"}

var one = number{"1"}

// Nothing to reckon is the usual case: forms are sparse and are mostly taken once.
func (a number) plus(b number) number {
	if a == zero {
		return b
	}
	if b == zero {
		return a
	}
	sum, _ := num.Add(a.text, b.text)
	return number{sum}
}

func (a number) minus(b number) number {
	rest, _ := num.Sub(a.text, b.text)
	return number{rest}
}

func (a number) times(b number) number {
	if a == one {
		return b
	}
	if b == one {
		return a
	}
	product, _ := num.Mul(a.text, b.text)
	return number{product}
}

// over divides by a number other than 0.
func (a number) over(b number) number {
	quotient, _ := num.Quo(a.text, b.text)
	return number{quotient}
}

func (a number) opposite() number {
	return zero.minus(a)
}

// size is the number without its sign.
func (a number) size() number {
	if a.sign() < 0 {
		return a.opposite()
	}
	return a
}

func (a number) compare(b number) int {
	order, _ := num.Cmp(a.text, b.text)
	return order
}

// sign can be read off a canonical text.
func (a number) sign() int {
	if a == zero {
		return 0
	}
	if a.text[0] == '-' {
		return -1
	}
	return 1
}

func checkNumbers(texts ...string) api.Errno {
	for _, text := range texts {
		if _, err := num.Cmp(text, zero.text); err != api.OK {
			return api.ErrText
		}
	}
	return api.OK
}
