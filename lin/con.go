package lin

import (
	"arbiter/api"
	"arbiter/num"
)

// Tidy tells the normal form of a constraint.
func Tidy(c api.Con) (api.Con, api.Errno) {
	if err := checkCon(c); err != api.OK {
		return api.Con{}, err
	}
	return tidy(c), api.OK
}

func tidy(c api.Con) api.Con {
	if len(c.F.M) == 0 {
		return truth(meets(c.Op, number{c.F.K}))
	}
	lead := number{c.F.M[0].C}
	if c.Op != api.ConEq {
		lead = lead.size()
	}
	return api.Con{Op: c.Op, F: times(c.F, one.over(lead))}
}

// truth tells the constraint that holds always, or never.
func truth(holds bool) api.Con {
	if holds {
		return api.Con{Op: api.ConTrue, F: nought()}
	}
	return api.Con{Op: api.ConFalse, F: nought()}
}

// meets tells whether a constraint holds whose form has the value x.
func meets(op int, x number) bool {
	switch op {
	case api.ConLe:
		return x.sign() <= 0
	case api.ConLt:
		return x.sign() < 0
	case api.ConEq:
		return x.sign() == 0
	}
	return op == api.ConTrue
}

// Opposite tells constraints of which one holds just where c does not.
func Opposite(c api.Con) ([]api.Con, api.Errno) {
	if err := checkCon(c); err != api.OK {
		return nil, err
	}
	if fixed(c) {
		return []api.Con{truth(c.Op == api.ConFalse)}, api.OK
	}
	turned := times(c.F, one.opposite())
	switch c.Op {
	case api.ConLe:
		return []api.Con{{Op: api.ConLt, F: turned}}, api.OK
	case api.ConLt:
		return []api.Con{{Op: api.ConLe, F: turned}}, api.OK
	}
	return []api.Con{{Op: api.ConLt, F: again(c.F)}, {Op: api.ConLt, F: turned}}, api.OK
}

// Holds tells whether c holds where the variable i is at[i].
func Holds(c api.Con, at []string) (bool, api.Errno) {
	if err := first(checkCon(c), checkNumbers(at...)); err != api.OK {
		return false, err
	}
	return holds(c, pointAt(at)), api.OK
}

func holds(c api.Con, at point) bool {
	return meets(c.Op, value(c.F, at))
}

func allHold(cons []api.Con, at point) bool {
	for _, c := range cons {
		if !holds(c, at) {
			return false
		}
	}
	return true
}

// Combine adds up the constraints, each taken as many times as mult says.
func Combine(cons []api.Con, mult []string) (api.Con, api.Errno) {
	if err := checkSum(cons, mult); err != api.OK {
		return api.Con{}, err
	}
	return combined(cons, mult), api.OK
}

// Farkas tells whether that sum can never be.
func Farkas(cons []api.Con, mult []string) (bool, api.Errno) {
	if err := checkSum(cons, mult); err != api.OK {
		return false, err
	}
	return tidy(combined(cons, mult)).Op == api.ConFalse, api.OK
}

func combined(cons []api.Con, mult []string) api.Con {
	s := newSum()
	op := api.ConEq
	for i, c := range cons {
		count := number{mult[i]}
		if count == zero {
			continue
		}
		switch c.Op {
		case api.ConFalse:
			return truth(false)
		case api.ConLt:
			op = api.ConLt
		case api.ConLe:
			if op == api.ConEq {
				op = api.ConLe
			}
		}
		s.take(c.F.M, c.F.K, count)
	}
	return api.Con{Op: op, F: s.form()}
}

// Eliminate tells constraints without the variable v that hold just where those given hold with some v.
func Eliminate(cons []api.Con, v int) ([]api.Con, api.Errno) {
	if err := first(checkCons(cons), checkVar(v)); err != api.OK {
		return nil, err
	}
	if i := firstEquation(cons, v); i >= 0 {
		return substituted(cons, v, i), api.OK
	}
	return paired(cons, v), api.OK
}

// firstEquation tells the place of the first ConEq with v, or -1.
func firstEquation(cons []api.Con, v int) int {
	for i, c := range cons {
		if c.Op == api.ConEq && coef(c.F, v) != zero {
			return i
		}
	}
	return -1
}

// substituted tells all constraints but the one at skip, with what that says of v in the place of v.
func substituted(cons []api.Con, v, skip int) []api.Con {
	is := solved(cons[skip].F, v)
	var rest []api.Con
	for i, c := range cons {
		if i != skip {
			rest = append(rest, api.Con{Op: c.Op, F: put(c.F, v, is)})
		}
	}
	return rest
}

// paired tells the constraints without v, then each lower bound of v against each upper one.
func paired(cons []api.Con, v int) []api.Con {
	var rest, lower, upper []api.Con
	for _, c := range cons {
		lead := coef(c.F, v)
		switch lead.sign() {
		case 0:
			rest = append(rest, api.Con{Op: c.Op, F: again(c.F)})
		case -1:
			lower = append(lower, unit(c, lead))
		case 1:
			upper = append(upper, unit(c, lead))
		}
	}
	for _, low := range lower {
		for _, up := range upper {
			rest = append(rest, api.Con{Op: stricter(low.Op, up.Op), F: plus(low.F, up.F)})
		}
	}
	return rest
}

func stricter(op, other int) int {
	if op == api.ConLt || other == api.ConLt {
		return api.ConLt
	}
	return api.ConLe
}

// unit tells c divided by the size of lead.
func unit(c api.Con, lead number) api.Con {
	return api.Con{Op: c.Op, F: times(c.F, one.over(lead.size()))}
}

// Between tells the simplest value of the variable v with which all constraints hold, the other variables being at.
func Between(cons []api.Con, v int, at []string) (string, api.Errno) {
	if err := first(checkCons(cons), checkVar(v), checkNumbers(at...)); err != api.OK {
		return "", err
	}
	x, err := candidate(cons, v, pointAt(at))
	if err != api.OK || !allHold(cons, moved(pointAt(at), v, number{x})) {
		return "", api.ErrOrder
	}
	return x, api.OK
}

// moved tells the point where v is x and all else is as at says.
func moved(at point, v int, x number) point {
	return func(w int) number {
		if w == v {
			return x
		}
		return at(w)
	}
}

// candidate tells the value of v that is the answer if any value is.
func candidate(cons []api.Con, v int, at point) (string, api.Errno) {
	if i := firstEquation(cons, v); i >= 0 {
		return value(solved(cons[i].F, v), at).text, api.OK
	}
	lo, hi := bounds(cons, v, at)
	if lo != "" && lo == hi {
		return lo, api.OK
	}
	return num.Simplest(lo, hi)
}

// bounds tells the greatest lower and the least upper bound of v; the empty text where there is none.
func bounds(cons []api.Con, v int, at point) (string, string) {
	var lo, hi string
	for _, c := range cons {
		lead := coef(c.F, v)
		if lead == zero {
			continue
		}
		x := value(solved(c.F, v), at)
		if lead.sign() < 0 && (lo == "" || x.compare(number{lo}) > 0) {
			lo = x.text
		}
		if lead.sign() > 0 && (hi == "" || x.compare(number{hi}) < 0) {
			hi = x.text
		}
	}
	return lo, hi
}
