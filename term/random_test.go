package term_test

import (
	"math/rand"
	"slices"
	"strconv"
	"testing"

	"arbiter/api"
	"arbiter/term"
)

// pair is a bank and the plain one beside it, told the same.
type pair struct {
	t    *testing.T
	rng  *rand.Rand
	bank *term.Bank
	p    *plain
}

func newPair(t *testing.T, seed int64) *pair {
	x := &pair{t, rand.New(rand.NewSource(seed)), term.New(), &plain{limit: api.MaxTerms}}
	x.bank.Sort("U")
	x.p.sort("U")
	for range 7 {
		x.fun()
	}
	return x
}

func (x *pair) same(what string, n int, e api.Errno, m int, f api.Errno) {
	x.t.Helper()
	if n != m || e != f {
		x.t.Fatalf("%s = %d, %d, want %d, %d", what, n, e, m, f)
	}
}

func (x *pair) fun() {
	x.t.Helper()
	var args []int
	for range x.rng.Intn(4) {
		args = append(args, x.rng.Intn(4)-x.rng.Intn(8)/7)
	}
	if x.rng.Intn(2) == 0 {
		args = nil
	}
	name, out := "f"+strconv.Itoa(x.rng.Intn(5)), x.rng.Intn(3)+x.rng.Intn(6)/5
	n, e := x.bank.Fun(name, args, out)
	m, f := x.p.fun(name, args, out)
	x.same("T2: Fun", n, e, m, f)
}

// pick tells the number of a term, of one that is not there once in a while.
func (x *pair) pick() int {
	if x.rng.Intn(60) == 0 {
		return []int{-1, len(x.p.Terms), -1 << 63, 1<<63 - 1}[x.rng.Intn(4)]
	}
	if len(x.p.Terms) == 0 {
		return 0
	}
	return x.rng.Intn(len(x.p.Terms))
}

// picks tells terms, mostly of one sort.
func (x *pair) picks(most int) []int {
	var list []int
	for range x.rng.Intn(most + 1) {
		list = append(list, x.pick())
	}
	if len(list) > 0 && x.rng.Intn(5) > 0 && x.p.there(list...) {
		sort := x.p.Terms[list[0]].Sort
		list = slices.DeleteFunc(list, func(t int) bool { return x.p.Terms[t].Sort != sort })
	}
	return list
}

// numbers tells terms that are numbers, but for one.
func (x *pair) numbers() []int {
	var list []int
	for i, t := range x.p.Terms {
		if t.Op == api.OpNum && x.rng.Intn(3) == 0 {
			list = append(list, i)
		}
	}
	list = list[:min(len(list), 3)]
	if x.rng.Intn(2) == 0 {
		list = slices.Insert(list, x.rng.Intn(len(list)+1), x.pick())
	}
	return list
}

func (x *pair) step() {
	x.t.Helper()
	switch x.rng.Intn(10) {
	case 0:
		text := []string{"0", "1", "-1", "1/2", "-7/3", "3", "2/4", "", "00", "-0", "+1", "1/1", "12345678901234567890123", "1.5", "x"}[x.rng.Intn(15)]
		n, e := x.bank.Num(text)
		m, f := x.p.num(text)
		x.same("T3: Num "+text, n, e, m, f)
	case 1, 2, 3:
		fun := x.rng.Intn(len(x.p.Funs)+2) - x.rng.Intn(20)/19
		args := x.picks(3)
		if x.rng.Intn(3) > 0 {
			args = x.argsOf(fun)
		}
		n, e := x.bank.App(fun, args)
		m, f := x.p.app(fun, args)
		x.same("T3: App", n, e, m, f)
	case 4, 5, 6, 7, 8:
		op, args := x.rng.Intn(23)-1, x.picks(4)
		if x.rng.Intn(3) == 0 {
			op, args = 13+x.rng.Intn(4), x.numbers()
		}
		n, e := x.bank.Op(op, args)
		m, f := x.p.op(op, args)
		x.same("T3, T4, T5: Op "+strconv.Itoa(op), n, e, m, f)
	case 9:
		x.subst()
	}
}

// argsOf tells terms of the sorts that a function wants, as far as there are such.
func (x *pair) argsOf(fun int) []int {
	var args []int
	if fun < 0 || fun >= len(x.p.Funs) {
		return nil
	}
	for _, s := range x.p.Funs[fun].Args {
		for range 20 {
			if t := x.pick(); x.p.there(t) && x.p.Terms[t].Sort == s {
				args = append(args, t)
				break
			}
		}
	}
	return args
}

func (x *pair) subst() {
	x.t.Helper()
	t, from, to := x.pick(), x.picks(3), x.picks(3)
	if x.p.there(from...) && x.rng.Intn(5) > 0 {
		to = nil
		for _, f := range from {
			to = append(to, f)
			for range 20 {
				if u := x.pick(); x.p.there(u) && x.p.Terms[u].Sort == x.p.Terms[f].Sort {
					to[len(to)-1] = u
				}
			}
		}
	}
	n, e := x.bank.Subst(t, from, to)
	m, f := x.p.subst(t, from, to)
	x.same("T8: Subst", n, e, m, f)
}

// ask asks all there is to ask.
func (x *pair) ask() {
	x.t.Helper()
	if out := x.bank.Export(); !sameBank(out, x.p.Bank) || x.bank.Size() != len(x.p.Terms) {
		x.t.Fatalf("T6: Export: %+v, want %+v", out, x.p.Bank)
	}
	t := x.pick()
	v, e := x.bank.View(t)
	if x.p.there(t) != (e == api.OK) || e == api.OK && !sameTerm(v, x.p.Terms[t]) || e != api.OK && (e != api.ErrIndex || !sameTerm(v, api.Term{})) {
		x.t.Fatalf("T6: View(%d) = %+v, %d", t, v, e)
	}
	f, e := x.bank.Lin(t)
	want, w := x.p.form(t)
	if e != w || f.K != want.K || !slices.Equal(f.M, want.M) {
		x.t.Fatalf("T9: Lin(%d) = %v, %d, want %v, %d", t, f, e, want, w)
	}
	weight, e := x.bank.Weight(t)
	if x.p.there(t) && (weight != strconv.Itoa(x.p.weight(t)) || e != api.OK) || !x.p.there(t) && (weight != "" || e != api.ErrIndex) {
		x.t.Fatalf("T10: Weight(%d) = %s, %d", t, weight, e)
	}
	x.askLists()
}

func (x *pair) askLists() {
	x.t.Helper()
	roots := x.picks(4)
	reached, e := x.bank.Reach(roots)
	small, anew, f := term.Compact(x.p.Bank, roots)
	if !x.p.there(roots...) {
		if e != api.ErrIndex || f != api.ErrIndex || len(reached)+len(anew) > 0 || !sameBank(small, api.Bank{}) {
			x.t.Fatalf("T10, T11: no terms %v: %v, %d; %v, %v, %d", roots, reached, e, small, anew, f)
		}
		return
	}
	var want []int
	for _, r := range roots {
		want = x.p.reach(r, never, want)
	}
	slices.Sort(want)
	if e != api.OK || !slices.Equal(reached, want) {
		x.t.Fatalf("T10: Reach(%v) = %v, %d, want %v", roots, reached, e, want)
	}
	wantBank, wantNew := x.p.compact(roots)
	if f != api.OK || !sameBank(small, wantBank) || !slices.Equal(anew, wantNew) {
		x.t.Fatalf("T11: Compact(%v) = %+v, %v, %d, want %+v, %v", roots, small, anew, f, wantBank, wantNew)
	}
	if e := term.Check(small); e != api.OK {
		x.t.Fatalf("T11: Compact tells no bank: %d", e)
	}
}

func TestAgainstThePlainBank(t *testing.T) {
	for seed := range int64(60) {
		x := newPair(t, seed)
		for i := range 120 {
			x.step()
			if i%20 == 19 {
				x.fun()
				x.ask()
			}
			if i == 70 {
				b, e := term.Load(x.bank.Export())
				if e != api.OK {
					t.Fatalf("T7: Load of what Export tells: %d", e)
				}
				x.bank = b // it goes on as the other would
			}
		}
		x.ask()
	}
}

// spoil changes one thing of a bank.
func (x *pair) spoil(b api.Bank) {
	small := func() int { return x.rng.Intn(6) - 1 }
	if len(b.Terms) == 0 || x.rng.Intn(8) == 0 {
		f := &b.Funs[x.rng.Intn(len(b.Funs))]
		if f.Out = small(); len(f.Args) > 0 {
			f.Args[0] = small()
		}
		return
	}
	v := &b.Terms[x.rng.Intn(len(b.Terms))]
	switch x.rng.Intn(8) {
	case 0:
		v.Op = x.rng.Intn(23) - 1
	case 1:
		v.Fun = small()
	case 2:
		v.Num = []string{"", "1", "2/2", "0"}[x.rng.Intn(4)]
	case 3:
		v.Sort = small()
	case 4:
		v.Args = append(v.Args, x.pick())
	case 5:
		v.Args = v.Args[:max(0, len(v.Args)-1)]
	case 6:
		if len(v.Args) > 0 {
			v.Args[x.rng.Intn(len(v.Args))] = x.pick()
		}
	case 7:
		*v = b.Terms[x.rng.Intn(len(b.Terms))]
	}
}

func TestCheckOfSpoiltBanks(t *testing.T) {
	count := map[api.Errno]int{}
	for seed := range int64(300) {
		x := newPair(t, seed)
		for range 40 {
			x.step()
		}
		for range 30 {
			b := x.bank.Export()
			x.spoil(b)
			if x.rng.Intn(3) == 0 {
				x.spoil(b)
			}
			want := check(b)
			count[want]++
			if e := term.Check(b); e != want {
				t.Fatalf("T7: Check(%+v) = %d, want %d", b, e, want)
			}
			if l, e := term.Load(b); e != want || (l == nil) == (e == api.OK) {
				t.Fatalf("T7: Load(%+v): %d, want %d", b, e, want)
			}
			if c, l, e := term.Compact(b, []int{-1}); e != want && want != api.OK || len(l) > 0 || !sameBank(c, api.Bank{}) {
				t.Fatalf("T11: Compact(%+v): %d, want %d", b, e, want)
			}
		}
	}
	for _, e := range []api.Errno{api.OK, api.ErrIndex, api.ErrText, api.ErrOp, api.ErrSort, api.ErrLinear} {
		if count[e] == 0 {
			t.Errorf("no bank with the error %d came up: %v", e, count)
		}
	}
}
