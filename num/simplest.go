package num

import (
	"arbiter/api"
	"arbiter/rat"
)

// Simplest tells the simplest rational between lo and hi, neither of them counted; an empty text is no bound.
func Simplest(lo, hi string) (string, api.Errno) {
	low, okLow := parseBound(lo)
	high, okHigh := parseBound(hi)
	if !okLow || !okHigh {
		return "", api.ErrText
	}
	if low.given && high.given && low.at.Cmp(high.at) >= 0 {
		return "", api.ErrOrder
	}
	if low.given && low.at.Sign() >= 0 {
		return simplestSize(low, high).Text(), api.OK
	}
	if high.given && high.at.Sign() <= 0 {
		return simplestSize(high, low).Neg().Text(), api.OK
	}
	return "0", api.OK
}

// bound is a number that is not to be reached, or none.
type bound struct {
	given bool
	at    rat.Rat
}

func parseBound(text string) (bound, bool) {
	if text == "" {
		return bound{}, true
	}
	at, ok := rat.Parse(text)
	return bound{given: ok, at: at}, ok
}

// ratio is upper/lower; a lower of 0 stands for no bound.
type ratio struct {
	upper, lower rat.Nat
}

// size is the bound without its sign.
func (b bound) size() ratio {
	if !b.given {
		return ratio{upper: rat.Word(1)}
	}
	return ratio{b.at.Upper(), b.at.Lower()}
}

// simplestSize tells the simplest rational between the sizes of two bounds on one side of 0, of which near is the nearer one. While no whole number lies between, what is sought has near's whole part, and behind it one over the simplest rational between the inverses of what is left of the bounds.
func simplestSize(near, far bound) rat.Rat {
	lo, hi := near.size(), far.size()
	var parts []rat.Nat
	for {
		whole, rest := lo.upper.DivMod(lo.lower)
		next := whole.Add(rat.Word(1))
		if next.Mul(hi.lower).Cmp(hi.upper) < 0 {
			return chain(next, parts)
		}
		parts = append(parts, whole)
		above := hi.upper.Sub(whole.Mul(hi.lower))
		lo, hi = ratio{hi.lower, above}, ratio{lo.lower, rest}
	}
}

// chain tells the number that begins with the parts, each the whole part of one over the rest ahead of it, and ends with last.
func chain(last rat.Nat, parts []rat.Nat) rat.Rat {
	upper, lower := last, rat.Word(1)
	for i := len(parts) - 1; i >= 0; i-- {
		upper, lower = parts[i].Mul(upper).Add(lower), upper
	}
	return rat.Of(false, upper, lower)
}
