package term_test

import (
	"math/big"
	"slices"
	"strconv"
	"strings"
	"testing"

	"arbiter/api"
	"arbiter/term"
)

func want(t *testing.T, what string, n int, e api.Errno, m int, f api.Errno) {
	t.Helper()
	if n != m || e != f {
		t.Errorf("%s = %d, %d, want %d, %d", what, n, e, m, f)
	}
}

// examples is the bank of the chapter's examples, up to term 8.
func examples(t *testing.T) *term.Bank {
	t.Helper()
	b := term.New()
	want(t, "T2: Sort", b.Sort("U"), api.OK, 2, api.OK)
	for i, f := range []api.Fun{{Name: "f", Args: []int{2}, Out: 2}, {Name: "a", Out: 2}, {Name: "x", Out: 1}} {
		n, e := b.Fun(f.Name, f.Args, f.Out)
		want(t, "T2: Fun "+f.Name, n, e, i, api.OK)
	}
	n, e := b.Fun("g", []int{3}, 2)
	want(t, "T2: Fun g", n, e, 0, api.ErrIndex)
	app := func(fun int, args []int) func() (int, api.Errno) {
		return func() (int, api.Errno) { return b.App(fun, args) }
	}
	num := func(text string) func() (int, api.Errno) {
		return func() (int, api.Errno) { return b.Num(text) }
	}
	op := func(op int, args ...int) func() (int, api.Errno) {
		return func() (int, api.Errno) { return b.Op(op, args) }
	}
	for _, c := range []struct {
		what string
		call func() (int, api.Errno)
		n    int
		e    api.Errno
	}{
		{"a", app(1, nil), 0, 0}, {"(f a)", app(0, []int{0}), 1, 0}, {"(f a) again", app(0, []int{0}), 1, 0}, {"(f)", app(0, nil), 0, api.ErrSort},
		{"3", num("3"), 2, 0}, {"6/2", num("6/2"), 0, api.ErrText}, {"x", app(2, []int{}), 3, 0}, {"(* 3 x)", op(api.OpMul, 2, 3), 4, 0},
		{"a product of products", op(api.OpMul, 4, 4), 0, api.ErrLinear}, {"(/ 3 3)", op(api.OpDiv, 2, 2), 5, 0}, {"(- 1 3)", op(api.OpSub, 5, 2), 6, 0},
		{"(/ x x)", op(api.OpDiv, 3, 3), 0, api.ErrLinear}, {"(= (f a) (* 3 x))", op(api.OpEq, 1, 4), 0, api.ErrSort}, {"(= a (f a) a)", op(api.OpEq, 0, 1, 0), 7, 0},
		{"OpApp", op(api.OpApp, 0), 0, api.ErrOp}, {"OpApp of none", op(api.OpApp, 99), 0, api.ErrIndex}, {"(+ (* 3 x) x -2)", op(api.OpAdd, 4, 3, 6), 8, 0},
	} {
		n, e := c.call()
		want(t, "chapter 5: "+c.what, n, e, c.n, c.e)
	}
	return b
}

func TestExamples(t *testing.T) {
	b := examples(t)
	if v, _ := b.View(5); !sameTerm(v, api.Term{Op: api.OpNum, Num: "1", Sort: 1}) {
		t.Errorf("T5: 3 divided by 3 is %+v", v)
	}
	if v, _ := b.View(6); v.Num != "-2" {
		t.Errorf("T5: 1 less 3 is %+v", v)
	}
	if f, e := b.Lin(8); e != api.OK || f.K != "-2" || !slices.Equal(f.M, []api.Mono{{V: 3, C: "4"}}) {
		t.Errorf("T9: Lin(8) = %v, %d", f, e)
	}
	if l, e := b.Reach([]int{7}); e != api.OK || !slices.Equal(l, []int{0, 1, 7}) {
		t.Errorf("T10: Reach([7]) = %v, %d", l, e)
	}
	if w, e := b.Weight(7); e != api.OK || w != "5" {
		t.Errorf("T10: Weight(7) = %s, %d", w, e)
	}
	n, e := b.Subst(7, []int{0}, []int{1})
	want(t, "T8: Subst(7, [0], [1])", n, e, 10, api.OK)
	n, e = b.Subst(8, []int{3}, []int{4})
	want(t, "T8: Subst(8, [3], [4])", n, e, 12, api.OK)
	want(t, "T8: Size", b.Size(), 0, 13, 0)
	for i, w := range map[int]api.Term{9: {Op: 4, Args: []int{1}, Sort: 2}, 10: {Op: 10, Args: []int{1, 9, 1}}, 11: {Op: 15, Args: []int{2, 4}, Sort: 1}, 12: {Op: 13, Args: []int{11, 4, 6}, Sort: 1}} {
		if v, _ := b.View(i); !sameTerm(v, w) {
			t.Errorf("T8: the term %d is %+v, want %+v", i, v, w)
		}
	}
	small, anew, e := term.Compact(b.Export(), []int{8, 4})
	terms := []api.Term{{Op: 3, Num: "3", Sort: 1}, {Op: 4, Fun: 2, Sort: 1}, {Op: 15, Args: []int{0, 1}, Sort: 1}, {Op: 3, Num: "-2", Sort: 1}, {Op: 13, Args: []int{2, 1, 3}, Sort: 1}}
	whole := b.Export()
	if e != api.OK || !slices.Equal(anew, []int{4, 2}) || !sameBank(small, api.Bank{Sorts: whole.Sorts, Funs: whole.Funs, Terms: terms}) {
		t.Errorf("T11: Compact = %+v, %v, %d", small, anew, e)
	}
}

// The operators' table: what stands at each number of arguments of each sort.
func TestTable(t *testing.T) {
	b := term.New()
	b.Sort("U")
	for _, s := range []int{0, 1, 2} {
		f, _ := b.Fun("c", nil, s)
		b.App(f, nil)
	}
	for op := -1; op <= 22; op++ {
		for _, args := range [][]int{{}, {0}, {1}, {2}, {0, 0}, {1, 1}, {2, 2}, {0, 1}, {1, 0}, {1, 2}, {0, 0, 0}, {1, 1, 1}, {2, 2, 2}, {0, 1, 1}, {0, 2, 2}, {0, 1, 2}, {1, 0, 0}, {1, 1, 2}, {0, 0, 0, 0}, {1, 1, 1, 1}, {1, 1, 1, 0}, {2, 2, 2, 2}, {0, 1, 1, 1}} {
			e := api.ErrOp
			sort := 0
			if op >= 1 && op <= 20 && op != 3 && op != 4 {
				e = api.ErrSort
				if s, ok := fits(op, args); ok { // the terms' numbers are their sorts
					e, sort = api.OK, s
					if op == api.OpMul || op == api.OpDiv {
						e, sort = api.ErrLinear, 0
					}
				}
			}
			n, got := b.Op(op, args)
			v, _ := b.View(n)
			if got != e || got == api.OK && (v.Sort != sort || v.Op != op || v.Fun != 0 || v.Num != "" || !slices.Equal(v.Args, args)) || got != api.OK && n != 0 {
				t.Errorf("T3, T4: Op(%d, %v) = %d, %d (%+v), want %d", op, args, n, got, v, e)
			}
		}
	}
}

func TestLinearAndZero(t *testing.T) {
	b := term.New()
	f, _ := b.Fun("x", nil, 1)
	x, _ := b.App(f, nil)
	zero, _ := b.Num("0")
	two, _ := b.Num("2")
	sum, _ := b.Op(api.OpAdd, []int{x, two})
	for _, c := range []struct {
		op   int
		args []int
		e    api.Errno
	}{
		{15, []int{x, x}, api.ErrLinear}, {15, []int{two, x, sum}, api.ErrLinear}, {15, []int{zero, x, x}, api.ErrLinear}, {15, []int{two, sum, zero, two}, 0}, {15, []int{x, two}, 0}, {15, []int{zero, x}, 0},
		{16, []int{x, two}, 0}, {16, []int{sum, two, two}, 0}, {16, []int{two, x}, api.ErrLinear}, {16, []int{x, x}, api.ErrLinear}, {16, []int{x, two, x}, api.ErrLinear}, {16, []int{x, zero, x}, api.ErrLinear}, {16, []int{x, x, zero}, api.ErrLinear},
		{16, []int{x, zero}, api.ErrZero}, {16, []int{x, two, zero}, api.ErrZero}, {16, []int{two, zero}, api.ErrZero}, {16, []int{zero, zero}, api.ErrZero}, {16, []int{two, two, zero, two}, api.ErrZero}, {16, []int{zero, two}, 0},
		{13, []int{zero, x, zero}, 0}, {14, []int{x}, 0}, {14, []int{sum, x, x}, 0},
	} {
		was := b.Size()
		n, e := b.Op(c.op, c.args)
		if e != c.e || e != api.OK && (n != 0 || b.Size() != was) {
			t.Errorf("T4: Op(%d, %v) = %d, %d, want %d", c.op, c.args, n, e, c.e)
		}
	}
}

func TestFolding(t *testing.T) {
	for _, c := range []struct {
		op   int
		args []string
		want string
	}{
		{13, []string{"1/2", "1/3"}, "5/6"}, {13, []string{"1", "-1", "0"}, "0"}, {14, []string{"5"}, "-5"}, {14, []string{"0"}, "0"}, {14, []string{"-1/3"}, "1/3"}, {14, []string{"1", "2", "3"}, "-4"},
		{15, []string{"-2/3", "3/2"}, "-1"}, {15, []string{"0", "7"}, "0"}, {15, []string{"2", "3", "5", "7"}, "210"}, {16, []string{"1", "3"}, "1/3"}, {16, []string{"12", "2", "-3"}, "-2"}, {16, []string{"0", "5"}, "0"}, {16, []string{"7", "7"}, "1"},
	} {
		b := term.New()
		var args []int
		for _, text := range c.args {
			n, _ := b.Num(text)
			args = append(args, n)
		}
		was := b.Size()
		n, e := b.Op(c.op, args)
		v, _ := b.View(n)
		if e != api.OK || !sameTerm(v, api.Term{Op: 3, Num: c.want, Sort: 1}) {
			t.Errorf("T5: Op(%d, %v) = %+v, %d, want %s", c.op, c.args, v, e, c.want)
		}
		if m, _ := b.Num(c.want); m != n {
			t.Errorf("T3, T5: %s is the term %d, and %d", c.want, m, n)
		}
		for i, a := range args {
			if v, _ := b.View(a); v.Num != c.args[i] || b.Size() > was+1 {
				t.Errorf("T5: the argument %s is %+v now, of %d terms", c.args[i], v, b.Size())
			}
		}
	}
	b := term.New()
	f, _ := b.Fun("x", nil, 1)
	x, _ := b.App(f, nil)
	one, _ := b.Num("1")
	zero, _ := b.Num("0")
	for _, args := range [][]int{{one, one, x}, {zero, x}} {
		for _, op := range []int{13, 15} {
			n, e := b.Op(op, args)
			if v, _ := b.View(n); e != api.OK || v.Op != op || !slices.Equal(v.Args, args) {
				t.Errorf("T5: Op(%d, %v) is rewritten to %+v, %d", op, args, v, e)
			}
		}
	}
	if n, e := b.Op(api.OpLt, []int{zero, one}); e != api.OK || n != b.Size()-1 {
		t.Errorf("T5: a comparison of numbers stays, %d, %d", n, e)
	}
}

// Which error comes where several apply.
func TestOrderOfErrors(t *testing.T) {
	b := examples(t)
	for _, c := range []struct {
		what string
		call func() (int, api.Errno)
		e    api.Errno
	}{
		{"an argument that is not there, of no operator", func() (int, api.Errno) { return b.Op(77, []int{0, 99}) }, api.ErrIndex},
		{"an argument that is not there, of a wrong sort", func() (int, api.Errno) { return b.Op(api.OpNot, []int{2, -1}) }, api.ErrIndex},
		{"no operator, at what no operator takes", func() (int, api.Errno) { return b.Op(api.OpNum, []int{0, 2}) }, api.ErrOp},
		{"not linear, and of a wrong sort", func() (int, api.Errno) { return b.Op(api.OpMul, []int{3, 3, 0}) }, api.ErrSort},
		{"a quotient by 0, and of a wrong sort", func() (int, api.Errno) { return b.Op(api.OpDiv, []int{0, 2}) }, api.ErrSort},
		{"no function, at no term", func() (int, api.Errno) { return b.App(3, []int{99}) }, api.ErrIndex},
		{"a term that is not there, too many", func() (int, api.Errno) { return b.App(1, []int{99}) }, api.ErrIndex},
		{"a function below 0", func() (int, api.Errno) { return b.App(-1, nil) }, api.ErrIndex},
		{"Subst of no term, lists unlike", func() (int, api.Errno) { return b.Subst(99, []int{0}, nil) }, api.ErrIndex},
		{"Subst, from no term, lists unlike", func() (int, api.Errno) { return b.Subst(0, []int{-1}, nil) }, api.ErrIndex},
		{"Subst, to no term, lists unlike", func() (int, api.Errno) { return b.Subst(0, nil, []int{9}) }, api.ErrIndex},
		{"Subst, lists unlike, sorts too", func() (int, api.Errno) { return b.Subst(0, []int{0, 1}, []int{2}) }, api.ErrCount},
		{"Subst, sorts unlike, where it would not count", func() (int, api.Errno) { return b.Subst(0, []int{0, 0}, []int{1, 2}) }, api.ErrSort},
		{"Subst, sorts unlike, of what t has not", func() (int, api.Errno) { return b.Subst(0, []int{3}, []int{0}) }, api.ErrSort},
		{"Subst, not linear, and sorts unlike", func() (int, api.Errno) { return b.Subst(8, []int{2, 0}, []int{3, 3}) }, api.ErrSort},
	} {
		before := b.Export()
		n, e := c.call()
		want(t, "errors in their order: "+c.what, n, e, 0, c.e)
		if !sameBank(before, b.Export()) {
			t.Errorf("P0.5: refused, the bank is another: %s", c.what)
		}
	}
	if n, e := b.Fun("g", nil, 3); n != 0 || e != api.ErrIndex {
		t.Errorf("T2: a result of no sort: %d, %d", n, e)
	}
	if n, e := b.Fun("g", []int{1, -1}, 1); n != 0 || e != api.ErrIndex {
		t.Errorf("T2: an argument of no sort: %d, %d", n, e)
	}
	if n, e := b.Fun("", nil, 0); n != 3 || e != api.OK {
		t.Errorf("T2: a function without a name: %d, %d", n, e)
	}
	if n := b.Sort("U"); n != 3 {
		t.Errorf("T2: a sort of the same name: %d", n)
	}
}

func TestSubst(t *testing.T) {
	b := term.New()
	for range 3 {
		f, _ := b.Fun("x", nil, 1)
		b.App(f, nil)
	}
	x, y, z := 0, 1, 2
	two, _ := b.Num("2")   // 3
	three, _ := b.Num("3") // 4
	n, _ := b.Op(api.OpAdd, []int{x, y})
	sum := n // 5
	n, _ = b.Op(api.OpMul, []int{two, sum})
	double := n // 6
	lt, _ := b.Op(api.OpLt, []int{double, sum})
	for _, c := range []struct {
		what     string
		t        int
		from, to []int
		want     string
		e        api.Errno
	}{
		{"all at one time", sum, []int{x, y}, []int{y, x}, "(+ 1 0)", 0},
		{"what was put in is not looked into", sum, []int{x, y}, []int{sum, z}, "(+ (+ 0 1) 2)", 0},
		{"below a term that is replaced nothing is", double, []int{sum, x}, []int{z, y}, "(* 2 2)", 0},
		{"the first counts", sum, []int{x, x}, []int{z, y}, "(+ 2 1)", 0},
		{"the term itself", sum, []int{sum}, []int{x}, "0", 0},
		{"into itself", lt, []int{sum, x}, []int{sum, z}, "(< (* 2 (+ 0 1)) (+ 0 1))", 0},
		{"nothing", lt, nil, nil, "(< (* 2 (+ 0 1)) (+ 0 1))", 0},
		{"what is not in it", sum, []int{z, three}, []int{x, two}, "(+ 0 1)", 0},
		{"folded", sum, []int{x, y}, []int{two, three}, "5", 0},
		{"folded on the way", lt, []int{x, y}, []int{two, three}, "(< 10 5)", 0},
		{"not linear", lt, []int{two}, []int{z}, "", api.ErrLinear},
	} {
		before := b.Export()
		n, e := b.Subst(c.t, c.from, c.to)
		got := ""
		if e == api.OK {
			got = spelt(b, n)
		}
		if got != c.want || e != c.e || e != api.OK && (n != 0 || !sameBank(before, b.Export())) {
			t.Errorf("T8: %s: %s, %d, want %s, %d", c.what, got, e, c.want, c.e)
		}
	}
	zero, _ := b.Num("0")
	quotient, _ := b.Op(api.OpDiv, []int{x, three})
	// The sum comes ahead of the quotient: what is made of it is taken back.
	both, _ := b.Op(api.OpEq, []int{sum, quotient})
	before := b.Export()
	for range 2 {
		n, e := b.Subst(both, []int{three, y}, []int{zero, z})
		want(t, "T8: a quotient that becomes one by 0", n, e, 0, api.ErrZero)
	}
	if !sameBank(before, b.Export()) {
		t.Error("T8: refused, the bank is another")
	}
	want(t, "T3: the next term", must(b.Op(api.OpAdd, []int{x, z})), 0, b.Size()-1, 0)
}

func must(n int, e api.Errno) int {
	if e != api.OK {
		return -1
	}
	return n
}

// spelt writes a term with the functions' numbers for their names.
func spelt(b *term.Bank, t int) string {
	v, _ := b.View(t)
	name := map[int]string{api.OpAdd: "+", api.OpMul: "*", api.OpLt: "<", api.OpDiv: "/", api.OpEq: "="}[v.Op]
	switch v.Op {
	case api.OpNum:
		return v.Num
	case api.OpApp:
		return strconv.Itoa(v.Fun)
	}
	parts := []string{name}
	for _, a := range v.Args {
		parts = append(parts, spelt(b, a))
	}
	return "(" + strings.Join(parts, " ") + ")"
}

func TestLimit(t *testing.T) {
	b := term.New()
	f, _ := b.Fun("p", nil, 0)
	n, _ := b.App(f, nil)
	for b.Size() < api.MaxTerms-2 {
		n, _ = b.Op(api.OpNot, []int{n})
	}
	one, e := b.Num("1")
	want(t, "the term ahead of the last", one, e, api.MaxTerms-2, api.OK)
	two, e := b.Num("2")
	want(t, "the last term", two, e, api.MaxTerms-1, api.OK)
	whole := b.Export()
	if e := term.Check(whole); e != api.OK || len(whole.Terms) != api.MaxTerms {
		t.Fatalf("T7: a full bank: %d", e)
	}
	for _, c := range []struct {
		what string
		call func() (int, api.Errno)
		n    int
		e    api.Errno
	}{
		{"Num", func() (int, api.Errno) { return b.Num("3") }, 0, api.ErrLimit}, {"Num that is there", func() (int, api.Errno) { return b.Num("2") }, two, 0}, {"no text", func() (int, api.Errno) { return b.Num("3/1") }, 0, api.ErrText},
		{"Op", func() (int, api.Errno) { return b.Op(api.OpTrue, nil) }, 0, api.ErrLimit}, {"Op that is there", func() (int, api.Errno) { return b.Op(api.OpNot, []int{0}) }, 1, 0}, {"Op, sorts", func() (int, api.Errno) { return b.Op(api.OpNot, []int{one}) }, 0, api.ErrSort},
		{"folding", func() (int, api.Errno) { return b.Op(api.OpAdd, []int{one, two}) }, 0, api.ErrLimit}, {"folding into what is there", func() (int, api.Errno) { return b.Op(api.OpSub, []int{two, one}) }, one, 0},
		{"Subst", func() (int, api.Errno) { return b.Subst(5, []int{0}, []int{1}) }, 6, 0}, {"Subst at the end", func() (int, api.Errno) { return b.Subst(n, []int{0}, []int{1}) }, 0, api.ErrLimit},
	} {
		got, e := c.call()
		want(t, "a full bank: "+c.what, got, e, c.n, c.e)
	}
	g, _ := b.Fun("q", nil, 0)
	got, e := b.App(g, nil)
	want(t, "a full bank: App", got, e, 0, api.ErrLimit)
	if b.Size() != api.MaxTerms {
		t.Errorf("a full bank has %d terms", b.Size())
	}
	for _, c := range []struct {
		last api.Term
		e    api.Errno
	}{{api.Term{Op: 1}, api.ErrLimit}, {api.Term{Op: 5, Args: []int{0}}, api.ErrIndex}, {api.Term{Op: 13, Args: []int{one, two}, Sort: 1}, api.ErrLimit}, {api.Term{Op: 14, Args: []int{two, one}, Sort: 1}, api.ErrIndex}, {api.Term{Op: 21}, api.ErrOp}, {api.Term{Op: 5, Args: []int{one}}, api.ErrSort}} {
		over := whole
		over.Terms = append(slices.Clip(whole.Terms), c.last)
		if e := term.Check(over); e != c.e {
			t.Errorf("T7: one term too many, %+v: %d, want %d", c.last, e, c.e)
		}
	}
}

// A chain of sums, each the double of the one ahead of it: as a tree it is longer than anything could hold.
func TestDeep(t *testing.T) {
	const deep = 20000
	b := term.New()
	f, _ := b.Fun("x", nil, 1)
	x, _ := b.App(f, nil)
	g, _ := b.Fun("y", nil, 1)
	y, _ := b.App(g, nil)
	n := x
	for range deep {
		n, _ = b.Op(api.OpAdd, []int{n, n})
	}
	power := new(big.Int).Lsh(big.NewInt(1), deep)
	if l, e := b.Lin(n); e != api.OK || l.K != "0" || !slices.Equal(l.M, []api.Mono{{V: x, C: power.String()}}) {
		t.Errorf("T9, P0.6: the form of a deep sum: %d", e)
	}
	weight := new(big.Int).Sub(new(big.Int).Lsh(power, 1), big.NewInt(1)).String()
	if w, e := b.Weight(n); e != api.OK || w != weight {
		t.Errorf("T10, P0.6: the weight of a deep sum: %d digits, %d", len(w), e)
	}
	if l, e := b.Reach([]int{n}); e != api.OK || len(l) != deep+1 {
		t.Errorf("T10, P0.7: Reach of a deep sum: %d terms, %d", len(l), e)
	}
	m, e := b.Subst(n, []int{x}, []int{y})
	if w, _ := b.Weight(m); e != api.OK || w != weight || m != n+deep {
		t.Errorf("T8, P0.7: Subst in a deep sum: %d, %d", m, e)
	}
	small, anew, e := term.Compact(b.Export(), []int{m})
	if e != api.OK || len(small.Terms) != deep+1 || !slices.Equal(anew, []int{deep}) {
		t.Errorf("T11, P0.7: Compact of a deep sum: %d terms, %v, %d", len(small.Terms), anew, e)
	}
}

func TestLongNumbers(t *testing.T) {
	b := term.New()
	long := strings.Repeat("7", 5000)
	n, _ := b.Num(long)
	m, _ := b.Num("1/" + long)
	if one, e := b.Op(api.OpMul, []int{n, m}); e != api.OK {
		t.Errorf("T5: %d", e)
	} else if v, _ := b.View(one); v.Num != "1" {
		t.Errorf("T5, P0.6: a number times one over it is %q", v.Num)
	}
	var many []int
	sum := new(big.Rat)
	for i := range 500 {
		k, _ := b.Num("1/" + strconv.Itoa(i+2))
		many = append(many, k)
		sum.Add(sum, big.NewRat(1, int64(i+2)))
	}
	s, _ := b.Op(api.OpAdd, many)
	if v, _ := b.View(s); v.Num != sum.RatString() {
		t.Errorf("T5, P0.6: a long sum is %s", v.Num)
	}
}

func TestLin(t *testing.T) {
	b := term.New()
	p, _ := b.Fun("p", nil, 0)
	q, _ := b.App(p, nil)
	f, _ := b.Fun("f", []int{1}, 1)
	g, _ := b.Fun("x", nil, 1)
	x, _ := b.App(g, nil)
	one, _ := b.Num("1")
	third, _ := b.Num("-1/3")
	op := func(op int, args ...int) int { return must(b.Op(op, args)) }
	sum := op(api.OpAdd, x, one)
	fsum, _ := b.App(f, []int{sum})
	pick := op(api.OpIte, q, sum, x)
	zero, _ := b.Num("0")
	for _, c := range []struct {
		t int
		m []api.Mono
		k string
		e api.Errno
	}{
		{x, []api.Mono{{V: x, C: "1"}}, "0", 0}, {one, nil, "1", 0}, {zero, nil, "0", 0}, {sum, []api.Mono{{V: x, C: "1"}}, "1", 0},
		{fsum, []api.Mono{{V: fsum, C: "1"}}, "0", 0}, {pick, []api.Mono{{V: pick, C: "1"}}, "0", 0},
		{op(api.OpMul, zero, x), nil, "0", 0}, {op(api.OpSub, x, x), nil, "0", 0}, {op(api.OpSub, sum), []api.Mono{{V: x, C: "-1"}}, "-1", 0}, {op(api.OpSub, one, sum, sum), []api.Mono{{V: x, C: "-2"}}, "-1", 0},
		{op(api.OpDiv, sum, third, third), []api.Mono{{V: x, C: "9"}}, "9", 0}, {op(api.OpMul, third, fsum, third), []api.Mono{{V: fsum, C: "1/9"}}, "0", 0}, {op(api.OpAdd, pick, fsum, x, pick), []api.Mono{{V: x, C: "1"}, {V: fsum, C: "1"}, {V: pick, C: "2"}}, "0", 0},
		{q, nil, "", api.ErrSort}, {op(api.OpLt, x, x), nil, "", api.ErrSort}, {-1, nil, "", api.ErrIndex}, {1 << 40, nil, "", api.ErrIndex},
	} {
		if l, e := b.Lin(c.t); e != c.e || l.K != c.k || !slices.Equal(l.M, c.m) {
			t.Errorf("T9: Lin(%d) = %v, %d, want %v, %s, %d", c.t, l, e, c.m, c.k, c.e)
		}
	}
}

func TestCheckInItsOrder(t *testing.T) {
	x := api.Term{Op: 4, Sort: 1}
	one := api.Term{Op: 3, Num: "1", Sort: 1}
	fun := []api.Fun{{Name: "x", Out: 1}}
	for _, c := range []struct {
		what string
		b    api.Bank
		e    api.Errno
	}{
		{"nothing", api.Bank{}, 0}, {"lists of length 0", api.Bank{Sorts: []string{}, Funs: []api.Fun{}, Terms: []api.Term{}}, 0},
		{"names alike, and empty", api.Bank{Sorts: []string{"", ""}, Funs: []api.Fun{{Out: 3}, {Args: []int{2}, Out: 0}}}, 0},
		{"functions come first", api.Bank{Funs: []api.Fun{{Out: 1}, {Out: 2}}, Terms: []api.Term{{Op: 99}}}, api.ErrIndex},
		{"an argument of no sort", api.Bank{Funs: []api.Fun{{Args: []int{1, 2}}}}, api.ErrIndex},
		{"the first term that is wrong", api.Bank{Funs: fun, Terms: []api.Term{x, {Op: 3, Num: "x", Sort: 1}, {Op: 99}}}, api.ErrText},
		{"a Fun too much ahead of a wrong text", api.Bank{Terms: []api.Term{{Op: 3, Fun: 1, Num: "x"}}}, api.ErrOp}, {"a Num too much ahead of no function", api.Bank{Terms: []api.Term{{Op: 4, Fun: 9, Num: "1"}}}, api.ErrOp},
		{"Args too much ahead of a wrong text", api.Bank{Terms: []api.Term{{Op: 3, Args: []int{0}}}}, api.ErrOp}, {"Args of true are the call's business", api.Bank{Terms: []api.Term{{Op: 1}, {Op: 2, Args: []int{0}}}}, api.ErrSort}, {"and so are those that are not there", api.Bank{Terms: []api.Term{{Op: 1, Args: []int{0}}}}, api.ErrIndex},
		{"a function below 0", api.Bank{Funs: fun, Terms: []api.Term{{Op: 4, Fun: -1}}}, api.ErrIndex}, {"a term that stands behind", api.Bank{Terms: []api.Term{{Op: 5, Args: []int{1}}, {Op: 1}}}, api.ErrIndex},
		{"the same term again, its sort wrong", api.Bank{Terms: []api.Term{one, {Op: 3, Num: "1"}}}, api.ErrIndex}, {"a sum that folds, its sort wrong", api.Bank{Terms: []api.Term{one, {Op: 13, Args: []int{0, 0}}}}, api.ErrIndex}, {"a sum of numbers whose value is there", api.Bank{Terms: []api.Term{one, {Op: 3, Num: "2", Sort: 1}, {Op: 13, Args: []int{0, 0}, Sort: 1}}}, api.ErrIndex},
		{"a wrong sort", api.Bank{Funs: fun, Terms: []api.Term{{Op: 4}}}, api.ErrSort}, {"a wrong sort of a choice", api.Bank{Funs: fun, Terms: []api.Term{{Op: 1}, x, {Op: 12, Args: []int{0, 1, 1}}}}, api.ErrSort}, {"a choice", api.Bank{Funs: fun, Terms: []api.Term{{Op: 1}, x, {Op: 12, Args: []int{0, 1, 1}, Sort: 1}}}, 0},
		{"not linear", api.Bank{Funs: fun, Terms: []api.Term{x, {Op: 15, Args: []int{0, 0}, Sort: 1}}}, api.ErrLinear}, {"by 0", api.Bank{Funs: fun, Terms: []api.Term{x, {Op: 3, Num: "0", Sort: 1}, {Op: 16, Args: []int{0, 1}, Sort: 1}}}, api.ErrZero},
	} {
		if e := term.Check(c.b); e != c.e || check(c.b) != c.e {
			t.Errorf("T7: %s: %d, plainly %d, want %d", c.what, e, check(c.b), c.e)
		}
	}
}
