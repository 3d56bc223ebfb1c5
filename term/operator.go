package term

import (
	"math"

	"arbiter/api"
	"arbiter/rat"
)

// What an operator wants of its arguments' sorts, where it is no sort.
const (
	alike  = -1 // all of one sort
	choice = -2 // Bool, then two of one sort, which is the term's too
)

const many = math.MaxInt

// shape is how many arguments an operator takes, of which sort, and of which sort it is then.
type shape struct {
	least, most int
	in, out     int
}

// OpNum and OpApp have rows too, since they are operators, but calls of their own look at their parts.
var shapes = [...]shape{
	api.OpTrue:     {0, 0, api.SortBool, api.SortBool},
	api.OpFalse:    {0, 0, api.SortBool, api.SortBool},
	api.OpNum:      {0, 0, api.SortReal, api.SortReal},
	api.OpApp:      {0, many, alike, alike},
	api.OpNot:      {1, 1, api.SortBool, api.SortBool},
	api.OpImplies:  {2, many, api.SortBool, api.SortBool},
	api.OpAnd:      {2, many, api.SortBool, api.SortBool},
	api.OpOr:       {2, many, api.SortBool, api.SortBool},
	api.OpXor:      {2, many, api.SortBool, api.SortBool},
	api.OpEq:       {2, many, alike, api.SortBool},
	api.OpDistinct: {2, many, alike, api.SortBool},
	api.OpIte:      {3, 3, choice, choice},
	api.OpAdd:      {2, many, api.SortReal, api.SortReal},
	api.OpSub:      {1, many, api.SortReal, api.SortReal},
	api.OpMul:      {2, many, api.SortReal, api.SortReal},
	api.OpDiv:      {2, many, api.SortReal, api.SortReal},
	api.OpLe:       {2, many, api.SortReal, api.SortBool},
	api.OpLt:       {2, many, api.SortReal, api.SortBool},
	api.OpGe:       {2, many, api.SortReal, api.SortBool},
	api.OpGt:       {2, many, api.SortReal, api.SortBool},
}

func isOperator(op int) bool {
	return op >= api.OpTrue && op <= api.OpGt
}

func isArithmetic(op int) bool {
	return op >= api.OpAdd && op <= api.OpDiv
}

// sortOf tells the sort of an operator at terms, and whether it may stand at them.
func (b *Bank) sortOf(op int, args []int) (int, bool) {
	s := shapes[op]
	if len(args) < s.least || len(args) > s.most {
		return 0, false
	}
	if s.in == choice {
		return b.terms[args[1]].Sort, b.terms[args[0]].Sort == api.SortBool && b.terms[args[1]].Sort == b.terms[args[2]].Sort
	}
	want := s.in
	if want == alike {
		want = b.terms[args[0]].Sort
	}
	for _, a := range args {
		if b.terms[a].Sort != want {
			return 0, false
		}
	}
	return s.out, true
}

func (b *Bank) isNum(t int) bool {
	return b.terms[t].Op == api.OpNum
}

// others tells how many terms are no numbers.
func (b *Bank) others(terms []int) int {
	count := 0
	for _, t := range terms {
		if !b.isNum(t) {
			count++
		}
	}
	return count
}

func (b *Bank) linear(op int, args []int) api.Errno {
	switch op {
	case api.OpMul:
		if b.others(args) > 1 {
			return api.ErrLinear
		}
	case api.OpDiv:
		if b.others(args[1:]) > 0 {
			return api.ErrLinear
		}
		for _, a := range args[1:] {
			if b.number(a).Sign() == 0 {
				return api.ErrZero
			}
		}
	}
	return api.OK
}

// number tells what an OpNum is.
func (b *Bank) number(t int) rat.Rat {
	value, _ := rat.Parse(b.terms[t].Num)
	return value
}

func (b *Bank) folds(op int, args []int) bool {
	return isArithmetic(op) && b.others(args) == 0
}

// fold reckons an operator at numbers; it has looked for a division by 0 already.
func (b *Bank) fold(op int, args []int) rat.Rat {
	values := make([]rat.Rat, len(args))
	for i, a := range args {
		values[i] = b.number(a)
	}
	first, rest := values[0], values[1:]
	switch {
	case op == api.OpAdd:
		return rat.Sum(values...)
	case op == api.OpMul:
		return rat.Product(values...)
	case op == api.OpDiv:
		return first.Quo(rat.Product(rest...))
	case len(rest) == 0:
		return first.Neg()
	}
	return first.Sub(rat.Sum(rest...))
}
