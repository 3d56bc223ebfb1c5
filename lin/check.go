package lin

import (
	"slices"

	"arbiter/api"
)

// Check tells whether f is a linear form.
func Check(f api.Lin) api.Errno {
	return first(checkMonos(f.M), checkNumbers(f.K), checkRise(f.M))
}

// first tells that of the errors found which stands first in the layer's order. (The later ones can only come up in arguments without these.)
func first(found ...api.Errno) api.Errno {
	for _, err := range [...]api.Errno{api.ErrText, api.ErrForm, api.ErrOp} {
		if slices.Contains(found, err) {
			return err
		}
	}
	return api.OK
}

// checkMonos looks at what holds of monomials in any order.
func checkMonos(m []api.Mono) api.Errno {
	err := api.OK
	for _, mono := range m {
		if checkNumbers(mono.C) != api.OK {
			return api.ErrText
		}
		err = first(err, checkVar(mono.V))
	}
	return err
}

func checkVar(v int) api.Errno {
	if v < 0 {
		return api.ErrForm
	}
	return api.OK
}

// checkRise looks at what holds of the monomials of a form alone.
func checkRise(m []api.Mono) api.Errno {
	for i, mono := range m {
		if mono.C == zero.text || i > 0 && mono.V <= m[i-1].V {
			return api.ErrForm
		}
	}
	return api.OK
}

func checkCon(c api.Con) api.Errno {
	return first(Check(c.F), checkFixed(c), checkOp(c.Op))
}

// checkFixed looks for a form that a constraint without one has all the same.
func checkFixed(c api.Con) api.Errno {
	if fixed(c) && (len(c.F.M) > 0 || c.F.K != zero.text) {
		return api.ErrForm
	}
	return api.OK
}

// fixed tells whether c holds always or never, whatever the variables are.
func fixed(c api.Con) bool {
	return c.Op == api.ConTrue || c.Op == api.ConFalse
}

func checkOp(op int) api.Errno {
	if op < api.ConLe || op > api.ConFalse {
		return api.ErrOp
	}
	return api.OK
}

func checkCons(cons []api.Con) api.Errno {
	err := api.OK
	for _, c := range cons {
		err = first(err, checkCon(c))
	}
	return err
}

func checkSum(cons []api.Con, mult []string) api.Errno {
	if err := first(checkCons(cons), checkNumbers(mult...)); err != api.OK {
		return err
	}
	if len(cons) != len(mult) {
		return api.ErrCount
	}
	for i, c := range cons {
		if c.Op != api.ConEq && (number{mult[i]}).sign() < 0 {
			return api.ErrSign
		}
	}
	return api.OK
}

func checkDeltas(deltas ...api.Delta) api.Errno {
	for _, d := range deltas {
		if err := checkNumbers(d.A, d.B); err != api.OK {
			return err
		}
	}
	return api.OK
}
