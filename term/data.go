package term

import (
	"slices"

	"arbiter/api"
	"arbiter/walk"
)

// Export tells all that is in the bank.
func (b *Bank) Export() api.Bank {
	out := b.declarations()
	for _, t := range b.terms {
		out.Terms = append(out.Terms, copied(t))
	}
	return out
}

// declarations tells the bank without its terms.
func (b *Bank) declarations() api.Bank {
	out := api.Bank{Sorts: append([]string(nil), b.sorts...), Funs: slices.Clone(b.funs)}
	for i := range out.Funs {
		out.Funs[i].Args = again(out.Funs[i].Args)
	}
	return out
}

// Load is a bank with all that is in b.
func Load(b api.Bank) (*Bank, api.Errno) {
	made := New()
	for _, name := range b.Sorts {
		made.Sort(name)
	}
	for _, f := range b.Funs {
		if _, err := made.Fun(f.Name, f.Args, f.Out); err != api.OK {
			return nil, err
		}
	}
	for _, t := range b.Terms {
		if err := made.follow(t); err != api.OK {
			return nil, err
		}
	}
	return made, api.OK
}

// follow makes the term that stands next in a bank, if it can stand there.
func (b *Bank) follow(t api.Term) api.Errno {
	if hasTooMuch(t) {
		return api.ErrOp
	}
	next := len(b.terms)
	at, err := b.remade(t)
	if err != api.OK {
		return err
	}
	if at != next || b.terms[at].Op != t.Op {
		return api.ErrIndex
	}
	if b.terms[at].Sort != t.Sort {
		return api.ErrSort
	}
	return api.OK
}

// hasTooMuch tells whether a term has no operator, or a part that its operator does not have.
func hasTooMuch(t api.Term) bool {
	if !isOperator(t.Op) || t.Fun != 0 && t.Op != api.OpApp {
		return true
	}
	if t.Op == api.OpNum {
		return len(t.Args) > 0
	}
	return t.Num != ""
}

func (b *Bank) remade(t api.Term) (int, api.Errno) {
	switch t.Op {
	case api.OpNum:
		return b.Num(t.Num)
	case api.OpApp:
		return b.App(t.Fun, t.Args)
	}
	return b.Op(t.Op, t.Args)
}

// Check tells whether b is a bank.
func Check(b api.Bank) api.Errno {
	_, err := Load(b)
	return err
}

// Compact leaves out the terms that the roots do not need, and numbers the others anew.
func Compact(b api.Bank, roots []int) (api.Bank, []int, api.Errno) {
	loaded, err := Load(b)
	if err != api.OK {
		return api.Bank{}, nil, err
	}
	if !loaded.has(roots...) {
		return api.Bank{}, nil, api.ErrIndex
	}
	out := loaded.declarations()
	number := make([]int, len(loaded.terms))
	for t := range walk.Up(roots, loaded.args) {
		number[t] = len(out.Terms)
		out.Terms = append(out.Terms, renumbered(loaded.terms[t], number))
	}
	anew := make([]int, len(roots))
	for i, root := range roots {
		anew[i] = number[root]
	}
	return out, anew, api.OK
}

func renumbered(t api.Term, number []int) api.Term {
	t = copied(t)
	for i, a := range t.Args {
		t.Args[i] = number[a]
	}
	return t
}
