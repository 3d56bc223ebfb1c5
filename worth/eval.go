package worth

import (
	"slices"

	"arbiter/api"
	"arbiter/rat"
	"arbiter/walk"
)

// Terms tells, by term, what the roots are worth where the functions have these tables. The terms are a bank's.
func Terms(terms []api.Term, tables []Table, roots []int) []Value {
	needed := slices.Collect(walk.Up(roots, func(t int) []int { return terms[t].Args }))
	asked := make([]int, len(terms)) // how often a term's value is still asked for
	for _, t := range roots {
		asked[t]++
	}
	for _, t := range needed {
		for _, a := range terms[t].Args {
			asked[a]++
		}
	}
	values := make([]Value, len(terms))
	for _, t := range needed {
		values[t] = worth(terms[t], tables, values)
		for _, a := range terms[t].Args {
			// A number can be as long as there are terms: it is let go of as soon as it has served.
			if asked[a]--; asked[a] == 0 {
				values[a] = nil
			}
		}
	}
	return values
}

// worth tells what a term is worth whose arguments have their values.
func worth(t api.Term, tables []Table, values []Value) Value {
	args := make([]Value, len(t.Args))
	for i, a := range t.Args {
		args[i] = values[a]
	}
	switch t.Op {
	case api.OpNum:
		q, _ := rat.Parse(t.Num)
		return Number{q}
	case api.OpApp:
		return tables[t.Fun].at(args)
	case api.OpIte:
		if IsTrue(args[0]) {
			return args[1]
		}
		return args[2]
	case api.OpAdd, api.OpSub, api.OpMul, api.OpDiv:
		return Number{reckoned(t.Op, args)}
	}
	return Truth(holds(t.Op, args))
}

// holds tells what an operator of sort Bool is worth.
func holds(op int, args []Value) bool {
	last := len(args) - 1
	switch op {
	case api.OpTrue:
		return true
	case api.OpNot:
		return !IsTrue(args[0])
	case api.OpImplies:
		return IsTrue(args[last]) || trues(args[:last]) < last
	case api.OpAnd:
		return trues(args) == len(args)
	case api.OpOr:
		return trues(args) > 0
	case api.OpXor:
		return trues(args)%2 == 1
	case api.OpEq:
		return neighbours(args, func(a, b Value) bool { return a.Same(b) })
	case api.OpDistinct:
		return distinct(args)
	case api.OpLe:
		return neighbours(args, func(a, b Value) bool { return a.Compare(b) <= 0 })
	case api.OpLt:
		return neighbours(args, func(a, b Value) bool { return a.Compare(b) < 0 })
	case api.OpGe:
		return neighbours(args, func(a, b Value) bool { return a.Compare(b) >= 0 })
	case api.OpGt:
		return neighbours(args, func(a, b Value) bool { return a.Compare(b) > 0 })
	}
	return false
}

func trues(args []Value) int {
	count := 0
	for _, a := range args {
		if IsTrue(a) {
			count++
		}
	}
	return count
}

// neighbours tells whether each two neighbours are so.
func neighbours(args []Value, so func(a, b Value) bool) bool {
	for i := range len(args) - 1 {
		if !so(args[i], args[i+1]) {
			return false
		}
	}
	return true
}

// distinct tells whether no two are the same. In order, the same ones are neighbours.
func distinct(args []Value) bool {
	slices.SortFunc(args, inOrder)
	return neighbours(args, func(a, b Value) bool { return !a.Same(b) })
}

// reckoned tells what an operator of arithmetic is worth; a divisor is never 0.
func reckoned(op int, args []Value) rat.Rat {
	numbers := make([]rat.Rat, len(args))
	for i, a := range args {
		q, _ := a.(Number)
		numbers[i] = q.Rat
	}
	first, rest := numbers[0], numbers[1:]
	switch {
	case op == api.OpAdd:
		return rat.Sum(numbers...)
	case op == api.OpMul:
		return rat.Product(numbers...)
	case op == api.OpDiv:
		return first.Quo(rat.Product(rest...))
	case len(rest) == 0:
		return first.Neg()
	}
	return first.Sub(rat.Sum(rest...))
}
