package term_test

import (
	"slices"
	"testing"

	"arbiter/api"
	"arbiter/term"
)

// room is a list with junk behind it.
func room(list ...int) []int {
	return append(slices.Grow(slices.Clone(list), 3), 7, 7, 7)[:len(list)]
}

// scribble writes over a list up to the end of its room.
func scribble(list []int) {
	list = list[:cap(list)]
	for i := range list {
		list[i] = -9
	}
}

func listsOf(b api.Bank) [][]int {
	var all [][]int
	for _, f := range b.Funs {
		all = append(all, f.Args)
	}
	for _, t := range b.Terms {
		all = append(all, t.Args)
	}
	return all
}

// spoilBank writes over all lists of a bank and looks that no other list of it changes by that.
func spoilBank(t *testing.T, what string, b api.Bank) {
	t.Helper()
	all := listsOf(b)
	for i, list := range all {
		scribble(list)
		for _, other := range all[i+1:] {
			if slices.Contains(other[:cap(other)], -9) {
				t.Errorf("T1, P0.4: two lists of %s share memory", what)
				return
			}
		}
	}
	for i := range b.Sorts[:cap(b.Sorts)] {
		b.Sorts[:cap(b.Sorts)][i] = "scribbled"
	}
	for i := range b.Funs[:cap(b.Funs)] {
		b.Funs[:cap(b.Funs)][i] = api.Fun{Name: "scribbled"}
	}
	for i := range b.Terms[:cap(b.Terms)] {
		b.Terms[:cap(b.Terms)][i] = api.Term{Op: -1}
	}
}

func TestWhatIsHandedOut(t *testing.T) {
	b := examples(t)
	held := b.Export()
	spoilBank(t, "Export", b.Export())
	v, _ := b.View(7)
	scribble(v.Args)
	f, _ := b.Lin(8)
	f.M[0] = api.Mono{V: -1}
	reached, _ := b.Reach([]int{7})
	scribble(reached)
	if again, _ := b.Reach([]int{7}); !sameBank(held, b.Export()) || !slices.Equal(again, []int{0, 1, 7}) {
		t.Error("T1, P0.4: the bank is another behind answers that were written over")
	}
	l, _ := term.Load(held)
	roots := room(8, 4)
	small, anew, _ := term.Compact(held, roots)
	spoilBank(t, "Compact", small)
	scribble(anew)
	if !sameBank(held, b.Export()) || !sameBank(held, l.Export()) || !slices.Equal(roots[:5], []int{8, 4, 7, 7, 7}) {
		t.Error("T1, P0.4: what Compact was given is another")
	}
	spoilBank(t, "what Load was given", held)
	if !sameBank(l.Export(), b.Export()) {
		t.Error("T1, P0.4: Load keeps what it was given")
	}
}

func TestWhatIsHandedIn(t *testing.T) {
	b := examples(t)
	sorts, args, from, to, roots := room(2, 1), room(4, 3, 6, 8), room(3), room(4), room(7)
	fun, _ := b.Fun("g", sorts, 0)
	made, _ := b.Op(api.OpAdd, args)
	at := room(1, made)
	app, _ := b.App(fun, at)
	turned, _ := b.Subst(made, from, to)
	b.Reach(roots)
	for _, l := range [][]int{sorts, args, from, to, roots, at} {
		if !slices.Equal(l[len(l):len(l)+3], []int{7, 7, 7}) {
			t.Errorf("P0.4: the spare room of %v was written to", l)
		}
	}
	if !slices.Equal(sorts, []int{2, 1}) || !slices.Equal(args, []int{4, 3, 6, 8}) || from[0] != 3 || to[0] != 4 {
		t.Error("T1, P0.4: an argument was changed")
	}
	held := b.Export()
	for _, l := range [][]int{sorts, args, from, to, roots, at} {
		scribble(l)
	}
	if !sameBank(held, b.Export()) {
		t.Error("T1, P0.4: an argument was kept")
	}
	if n, e := b.App(fun, []int{1, made}); n != app || e != api.OK {
		t.Errorf("T3: the same parts: %d, %d, want %d", n, e, app)
	}
	if n, e := b.Subst(made, []int{3}, []int{4}); n != turned || e != api.OK {
		t.Errorf("T8: the same again: %d, %d, want %d", n, e, turned)
	}
}

func TestTwoBanks(t *testing.T) {
	a, b := examples(t), term.New()
	held := a.Export()
	c, _ := term.Load(held)
	b.Sort("V")
	c.Sort("V")
	c.Fun("h", []int{3}, 0)
	c.Num("77")
	c.Op(api.OpTrue, nil)
	if b.Size() != 0 || len(b.Export().Funs) != 0 || !sameBank(held, a.Export()) || c.Size() != 11 {
		t.Error("T1, P0.5: a bank knows of another")
	}
	if n, e := b.Op(api.OpTrue, []int{}); n != 0 || e != api.OK {
		t.Errorf("P0.3: true at an empty list: %d, %d", n, e)
	}
	if n, e := b.Op(api.OpTrue, nil); n != 0 || e != api.OK {
		t.Errorf("P0.3: true at no list: %d, %d", n, e)
	}
}

// P0.8: the numbers that this layer speaks.
func TestNumbersOfApi(t *testing.T) {
	ops := []int{api.OpTrue, api.OpFalse, api.OpNum, api.OpApp, api.OpNot, api.OpImplies, api.OpAnd, api.OpOr, api.OpXor, api.OpEq, api.OpDistinct, api.OpIte, api.OpAdd, api.OpSub, api.OpMul, api.OpDiv, api.OpLe, api.OpLt, api.OpGe, api.OpGt}
	for i, op := range ops {
		if op != i+1 {
			t.Errorf("P0.8: an operator is %d, want %d", op, i+1)
		}
	}
	if api.SortBool != 0 || api.SortReal != 1 || api.SortFirst != 2 || api.ErrIndex != 30 || api.ErrSort != 31 || api.ErrLinear != 32 || api.ErrLimit != 46 || api.MaxTerms != 100000 {
		t.Error("P0.8: a number of api is another")
	}
	var _ struct {
		Op, Fun int
		Num     string
		Args    []int
		Sort    int
	} = api.Term{}
	var _ struct {
		Sorts []string
		Funs  []api.Fun
		Terms []api.Term
	} = api.Bank{}
	var _ struct {
		Name string
		Args []int
		Out  int
	} = api.Fun{}
}
