package lin_test

import (
	"math/big"
	"slices"
	"testing"

	"arbiter/api"
	"arbiter/lin"
	"arbiter/num"
)

func TestExamples(t *testing.T) {
	say := func(got any, err api.Errno) func(want any, wantErr api.Errno) {
		return func(want any, wantErr api.Errno) {
			t.Helper()
			expect(t, "chapter 2, examples", got, err, want, wantErr)
		}
	}
	monos := func(more ...any) []api.Mono { return form("0", more...).M }
	f, err := lin.Form(monos(2, "1", 0, "3", 2, "-1", 0, "1/2"), "4")
	say(f, err)(form("4", 0, "7/2"), api.OK)
	f, err = lin.Form(monos(0, "2/4", -1, "1"), "0")
	say(f, err)(api.Lin{}, api.ErrText)
	say(0, lin.Check(form("0", 3, "1", 3, "2")))(0, api.ErrForm)
	f, err = lin.Add(form("1", 0, "1", 1, "2"), form("-1", 1, "-2", 2, "1"))
	say(f, err)(form("0", 0, "1", 2, "1"), api.OK)
	f, err = lin.Subst(form("0", 0, "2", 1, "1"), 0, form("3", 0, "1", 1, "-1/2"))
	say(f, err)(form("6", 0, "2"), api.OK)
	f, err = lin.Solve(form("3", 0, "2", 1, "-1"), 1)
	say(f, err)(form("3", 0, "2"), api.OK)
	f, err = lin.Solve(form("0", 0, "2"), 1)
	say(f, err)(api.Lin{}, api.ErrGone)
	x, err := lin.Value(form("1/2", 0, "2", 2, "1"), texts("3"))
	say(x, err)("13/2", api.OK)
	c, err := lin.Tidy(lt("2", 1, "-3", 2, "6"))
	say(c, err)(lt("2/3", 1, "-1", 2, "2"), api.OK)
	c, err = lin.Tidy(eq("2", 1, "-3", 2, "6"))
	say(c, err)(eq("-2/3", 1, "1", 2, "-2"), api.OK)
	c, err = lin.Tidy(eq("-2"))
	say(c, err)(never, api.OK)
	c, err = lin.Tidy(lt("-2"))
	say(c, err)(always, api.OK)
	l, err := lin.Opposite(eq("0", 0, "1"))
	say(l, err)(cons(lt("0", 0, "1"), lt("0", 0, "-1")), api.OK)
	c, err = lin.Combine(cons(le("0", 0, "1", 1, "-1"), lt("0", 1, "1")), texts("1", "0"))
	say(c, err)(le("0", 0, "1", 1, "-1"), api.OK)
	b, err := lin.Farkas(cons(le("0", 0, "1", 1, "-1"), le("1", 0, "-1", 1, "1")), texts("1", "1"))
	say(b, err)(true, api.OK)
	b, err = lin.Farkas(cons(lt("0", 0, "1"), le("0", 0, "-1")), texts("1", "1"))
	say(b, err)(true, api.OK)
	b, err = lin.Farkas(cons(le("0", 0, "1"), le("0", 0, "-1")), texts("1", "1"))
	say(b, err)(false, api.OK)
	b, err = lin.Farkas(cons(le("0", 0, "1")), texts("-1"))
	say(b, err)(false, api.ErrSign)
	l, err = lin.Eliminate(cons(le("0", 0, "-1"), lt("0", 0, "1", 1, "-1"), le("0", 2, "1")), 0)
	say(l, err)(cons(le("0", 2, "1"), lt("0", 1, "-1")), api.OK)
	l, err = lin.Eliminate(cons(le("0", 0, "1", 1, "-1"), eq("-2", 0, "2")), 0)
	say(l, err)(cons(le("1", 1, "-1")), api.OK)
	x, err = lin.Between(cons(lt("0", 0, "-1"), le("-1", 0, "2")), 0, nil)
	say(x, err)("1/3", api.OK)
	x, err = lin.Between(cons(le("-2", 0, "1"), le("2", 0, "-1")), 0, nil)
	say(x, err)("2", api.OK)
	x, err = lin.Between(cons(lt("-2", 0, "1"), le("2", 0, "-1")), 0, nil)
	say(x, err)("", api.ErrOrder)
	n, err := lin.DCmp(delta("1", "-1"), delta("1", "0"))
	say(n, err)(-1, api.OK)
	x, err = lin.Pick(pairs(pair("0", "1", "1/2", "-1")))
	say(x, err)("1/4", api.OK)
	x, err = lin.Pick(nil)
	say(x, err)("1", api.OK)
}

func TestForm(t *testing.T) {
	for _, r := range []struct {
		m    api.Lin
		want api.Lin
	}{
		{form("0"), form("0")},
		{form("-1/3", 7, "0"), form("-1/3")},
		{form("0", 1<<40, "2", 3, "-2"), form("0", 3, "-2", 1<<40, "2")},
		{form("5", 0, "1", 0, "-1", 0, "0"), form("5")},
		{form("1", 1, "1", 1, "1", 1, "1"), form("1", 1, "3")},
		{form("1", 1, "1", 0, "1", 1, "-1", 0, "1"), form("1", 0, "2")},
		{form("0", 1, "100000000000000000000000000000", 1, "1/3"), form("0", 1, "300000000000000000000000000001/3")},
		{form("0", 1, "9007199254740993", 1, "1"), form("0", 1, "9007199254740994")},
	} {
		f, err := lin.Form(r.m.M, r.m.K)
		expect(t, "L2: Form", f, err, r.want, api.OK)
		f, err = lin.Form(append([]api.Mono{}, r.m.M...), r.m.K)
		expect(t, "P0.3: Form of a list that is not nil", f, err, r.want, api.OK)
	}
	var d dice = 1
	for range 500 {
		m := api.Lin{K: text(d.number())}
		var terms []any
		for range d.upTo(40) {
			mono := api.Mono{V: d.upTo(12), C: text(d.number())}
			m.M = append(m.M, mono)
			terms = append(terms, oneTime, api.Lin{M: []api.Mono{mono}, K: "0"})
		}
		f, err := lin.Form(m.M, m.K)
		expect(t, "L2: Form", f, err, gathered(append(terms, oneTime, api.Lin{K: m.K})...), api.OK)
		if e := lin.Check(f); e != api.OK {
			t.Errorf("L3: Check of what Form answers: %d", e)
		}
	}
}

// L2, P0.5: a form of many variables is told in their order, each time.
func TestOrderIsNotSeen(t *testing.T) {
	var m []api.Mono
	for i := range 300 {
		m = append(m, api.Mono{V: i * 7919 % 300, C: "1"})
	}
	for range 20 {
		f, err := lin.Form(m, "0")
		if err != api.OK || len(f.M) != 300 || !slices.IsSortedFunc(f.M, func(a, b api.Mono) int { return a.V - b.V }) {
			t.Fatalf("L2: Form: %v, %d", f, err)
		}
		g, err := lin.Add(f, f)
		if err != api.OK || len(g.M) != 300 || !slices.IsSortedFunc(g.M, func(a, b api.Mono) int { return a.V - b.V }) {
			t.Fatalf("L4: Add: %v, %d", g, err)
		}
	}
}

func TestCheck(t *testing.T) {
	for _, r := range []struct {
		f    api.Lin
		want api.Errno
	}{
		{form("0"), api.OK}, {api.Lin{M: []api.Mono{}, K: "0"}, api.OK}, {form("-1/2", 0, "1", 1, "-7/3", 1<<50, "100000000000000000000"), api.OK}, {form("1", 0, "-1"), api.OK},
		{api.Lin{}, api.ErrText}, {form(""), api.ErrText}, {form("-0"), api.ErrText}, {form("0", 0, ""), api.ErrText}, {form("0", 0, "1", 1, "2/4"), api.ErrText}, {form("0", 0, "00"), api.ErrText},
		{form("0", -1, "1"), api.ErrForm}, {form("0", 3, "1", 3, "2"), api.ErrForm}, {form("0", 3, "1", 2, "2"), api.ErrForm}, {form("0", 3, "0"), api.ErrForm}, {form("0", 0, "1", 1, "0"), api.ErrForm}, {form("0", 0, "1", 2, "1", 1, "1"), api.ErrForm}, {form("0", -2, "1", -1, "1"), api.ErrForm},
		{form("x", -1, "1"), api.ErrText}, {form("0", 0, "0", 1, "x"), api.ErrText}, {form("0", 2, "1", 1, "1", 5, "+1"), api.ErrText},
	} {
		if err := lin.Check(r.f); err != r.want {
			t.Errorf("L3: Check(%v) = %d, want %d", r.f, err, r.want)
		}
	}
}

func TestAddScaleSubstSolve(t *testing.T) {
	var d dice = 2
	for range 1500 {
		f, g, c, v := d.form(6), d.form(6), d.number(), d.upTo(8)
		sum, err := lin.Add(f, g)
		expect(t, "L4: Add", sum, err, gathered(oneTime, f, oneTime, g), api.OK)
		sum, err = lin.Add(f, gathered(minus, f))
		expect(t, "L4: Add of the opposite", sum, err, form("0"), api.OK)
		product, err := lin.Scale(f, text(c))
		expect(t, "L4: Scale", product, err, gathered(c, f), api.OK)
		product, err = lin.Scale(f, "0")
		expect(t, "L4: Scale by 0", product, err, form("0"), api.OK)
		put, err := lin.Subst(f, v, g)
		expect(t, "L5: Subst", put, err, gathered(oneTime, lacking(f, v), coefficient(f, v), g), api.OK)
		solved, err := lin.Solve(f, v)
		if lead := coefficient(f, v); lead.Sign() == 0 {
			expect(t, "L6: Solve", solved, err, api.Lin{}, api.ErrGone)
		} else {
			expect(t, "L6: Solve", solved, err, gathered(inverse(new(big.Rat).Neg(lead)), lacking(f, v)), api.OK)
		}
	}
	f, err := lin.Subst(form("1", 5, "2"), 1<<40, form("7", 1, "1"))
	expect(t, "L5: Subst of what is not there", f, err, form("1", 5, "2"), api.OK)
	f, err = lin.Solve(form("1", 5, "-2"), 5)
	expect(t, "L6: Solve of one variable", f, err, form("1/2"), api.OK)
	f, err = lin.Solve(form("1", 5, "-2"), 1<<40)
	expect(t, "L6: Solve", f, err, api.Lin{}, api.ErrGone)
}

func TestValueAndHolds(t *testing.T) {
	var d dice = 3
	for range 1500 {
		c, at := d.con(5), d.point(5)
		x, err := lin.Value(c.F, at)
		expect(t, "L7: Value", x, err, text(worth(c.F, at)), api.OK)
		b, err := lin.Holds(c, at)
		expect(t, "L7: Holds", b, err, met(c, at), api.OK)
	}
	x, err := lin.Value(form("1/2", 1<<40, "3"), texts("1"))
	expect(t, "L7: Value beyond the end", x, err, "1/2", api.OK)
	for _, r := range []struct {
		c    api.Con
		at   string
		want bool
	}{
		{le("-1", 0, "1"), "1", true}, {le("-1", 0, "1"), "0", true}, {le("-1", 0, "1"), "2", false},
		{lt("-1", 0, "1"), "1", false}, {lt("-1", 0, "1"), "0", true}, {lt("-1", 0, "1"), "2", false},
		{eq("-1", 0, "1"), "1", true}, {eq("-1", 0, "1"), "0", false}, {eq("-1", 0, "1"), "2", false},
		{always, "7", true}, {never, "7", false}, {le("0"), "5", true}, {lt("0"), "5", false},
		{lt("-100000000000000000000000000001", 0, "1"), "100000000000000000000000000000", true},
		{lt("-100000000000000000000000000001", 0, "1"), "100000000000000000000000000001", false},
	} {
		b, err := lin.Holds(r.c, texts(r.at))
		expect(t, "L7: Holds", b, err, r.want, api.OK)
	}
}

func TestTidy(t *testing.T) {
	for _, r := range []struct{ c, want api.Con }{
		{always, always}, {never, never},
		{le("0"), always}, {le("-1"), always}, {le("1/2"), never}, {lt("0"), never}, {lt("-1/2"), always}, {lt("1"), never}, {eq("0"), always}, {eq("1"), never}, {eq("-1"), never},
		{le("4", 0, "2"), le("2", 0, "1")}, {le("4", 0, "-2"), le("2", 0, "-1")}, {lt("1", 3, "-1/2", 4, "1"), lt("2", 3, "-1", 4, "2")}, {eq("4", 0, "-2"), eq("-2", 0, "1")}, {eq("1", 2, "1/2", 5, "-3"), eq("2", 2, "1", 5, "-6")}, {le("7", 1, "1"), le("7", 1, "1")},
	} {
		c, err := lin.Tidy(r.c)
		expect(t, "L8: Tidy", c, err, r.want, api.OK)
	}
	var d dice = 4
	for range 1000 {
		c := d.con(4)
		want := c
		switch {
		case c.Op > api.ConEq:
		case len(c.F.M) == 0 && met(c, nil):
			want = always
		case len(c.F.M) == 0:
			want = never
		case c.Op == api.ConEq:
			want.F = gathered(inverse(rat(c.F.M[0].C)), c.F)
		default:
			want.F = gathered(inverse(size(rat(c.F.M[0].C))), c.F)
		}
		got, err := lin.Tidy(c)
		expect(t, "L8: Tidy", got, err, want, api.OK)
		for range 5 {
			if at := d.point(4); met(got, at) != met(c, at) {
				t.Errorf("L8: Tidy(%v) = %v, unlike at %v", c, got, at)
			}
		}
	}
}

func TestOpposite(t *testing.T) {
	x, turned := form("4", 0, "2", 1, "-1/3"), form("-4", 0, "-2", 1, "1/3")
	for _, r := range []struct {
		c    api.Con
		want []api.Con
	}{
		{api.Con{Op: api.ConLe, F: x}, cons(api.Con{Op: api.ConLt, F: turned})},
		{api.Con{Op: api.ConLt, F: x}, cons(api.Con{Op: api.ConLe, F: turned})},
		{api.Con{Op: api.ConEq, F: x}, cons(api.Con{Op: api.ConLt, F: x}, api.Con{Op: api.ConLt, F: turned})},
		{always, cons(never)}, {never, cons(always)}, {le("0"), cons(lt("0"))}, {eq("-3"), cons(lt("-3"), lt("3"))},
	} {
		l, err := lin.Opposite(r.c)
		expect(t, "L9: Opposite", l, err, r.want, api.OK)
	}
	var d dice = 5
	for range 1000 {
		c, at := d.con(4), d.point(4)
		l, err := lin.Opposite(c)
		count := 0
		for _, o := range l {
			if met(o, at) {
				count++
			}
		}
		if err != api.OK || met(c, at) && count != 0 || !met(c, at) && count != 1 {
			t.Errorf("L9: Opposite(%v) = %v, %d, of which %d hold at %v", c, l, err, count, at)
		}
	}
}

func TestCombine(t *testing.T) {
	for _, r := range []struct {
		cons   []api.Con
		mult   []string
		want   api.Con
		farkas bool
	}{
		{nil, nil, eq("0"), false},
		{cons(never), texts("1/9"), never, true},
		{cons(never), texts("0"), eq("0"), false},
		{cons(always), texts("5"), eq("0"), false},
		{cons(never, le("1", 0, "1")), texts("0", "2"), le("2", 0, "2"), false},
		{cons(le("1", 0, "1"), never), texts("2", "2"), never, true},
		{cons(eq("1", 0, "2"), le("0", 0, "1")), texts("-1/2", "1"), le("-1/2"), false},
		{cons(eq("1", 0, "2"), le("0", 0, "1")), texts("-1/2", "0"), eq("-1/2", 0, "-1"), false},
		{cons(eq("1", 0, "2"), eq("0", 0, "1")), texts("-1/2", "1"), eq("-1/2"), true},
		{cons(lt("0", 0, "1"), le("0", 0, "-1")), texts("0", "3"), le("0", 0, "-3"), false},
		{cons(le("0", 0, "1"), lt("0", 0, "-1")), texts("3", "3"), lt("0"), true},
		{cons(lt("0", 0, "1"), le("0", 0, "-1"), eq("0", 1, "1")), texts("2", "2", "0"), lt("0"), true},
		{cons(lt("-1"), lt("0")), texts("1", "1"), lt("-1"), false},
		{cons(le("0"), always, eq("0")), texts("1", "1", "-1"), le("0"), false},
		{cons(eq("0", 0, "1"), le("1", 0, "4")), texts("-4", "1"), le("1"), true},
	} {
		c, err := lin.Combine(r.cons, r.mult)
		expect(t, "L10: Combine", c, err, r.want, api.OK)
		b, err := lin.Farkas(r.cons, r.mult)
		expect(t, "L10: Farkas", b, err, r.farkas, api.OK)
	}
	var d dice = 6
	for range 1000 {
		list := d.cons(4, d.upTo(5))
		var mult []string
		var terms []any
		ops := []int{}
		for _, c := range list {
			q := d.number()
			if c.Op != api.ConEq {
				q.Abs(q)
			}
			mult = append(mult, text(q))
			terms = append(terms, q, c.F)
			if q.Sign() != 0 {
				ops = append(ops, c.Op)
			}
		}
		want := api.Con{Op: api.ConEq, F: gathered(terms...)}
		switch {
		case slices.Contains(ops, api.ConFalse):
			want = never
		case slices.Contains(ops, api.ConLt):
			want.Op = api.ConLt
		case slices.Contains(ops, api.ConLe):
			want.Op = api.ConLe
		}
		c, err := lin.Combine(list, mult)
		expect(t, "L10: Combine", c, err, want, api.OK)
		b, err := lin.Farkas(list, mult)
		expect(t, "L10: Farkas", b, err, len(want.F.M) == 0 && !met(want, nil), api.OK)
	}
}

func TestEliminate(t *testing.T) {
	for _, r := range []struct {
		cons []api.Con
		v    int
		want []api.Con
	}{
		{nil, 0, nil},
		{cons(always, never, le("1", 1, "1")), 0, cons(always, never, le("1", 1, "1"))},
		{cons(le("1", 0, "1"), lt("2", 0, "3")), 0, nil},
		{cons(le("-6", 0, "2"), le("1", 0, "-1/2"), lt("3", 0, "-1")), 0, cons(le("-1"), lt("0"))},
		{cons(le("0", 0, "1", 1, "1"), lt("0", 0, "-1", 2, "1"), lt("0", 0, "2", 3, "2"), le("0", 0, "-1", 4, "1")), 0,
			cons(lt("0", 1, "1", 2, "1"), lt("0", 2, "1", 3, "1"), le("0", 1, "1", 4, "1"), lt("0", 3, "1", 4, "1"))},
		{cons(eq("0", 1, "1"), lt("0", 0, "1"), eq("-4", 0, "2", 1, "2"), eq("0", 0, "1"), always, le("3", 0, "-1")), 0,
			cons(eq("0", 1, "1"), lt("2", 1, "-1"), eq("2", 1, "-1"), always, le("1", 1, "1"))},
		{cons(eq("0", 1, "1")), 0, cons(eq("0", 1, "1"))},
		{cons(eq("5", 0, "1")), 0, nil},
		{cons(eq("0", 1, "2"), le("0", 0, "4")), 0, cons(eq("0", 1, "2"))},
		{cons(le("0", 0, "4")), 1 << 40, cons(le("0", 0, "4"))},
	} {
		l, err := lin.Eliminate(r.cons, r.v)
		expect(t, "L11: Eliminate", l, err, r.want, api.OK)
	}
	var d dice = 7
	for i := range 1500 {
		ops := []int{api.ConLe, api.ConLt}
		if i%3 == 0 {
			ops = nil
		}
		list, v := d.cons(4, d.upTo(7), ops...), d.upTo(5)
		got, err := lin.Eliminate(list, v)
		expect(t, "L11: Eliminate", got, err, eliminated(list, v), api.OK)
		for range 5 {
			at := d.point(4)
			if _, err := lin.Between(list, v, at); allMet(got, at) != (err == api.OK) {
				t.Errorf("L11, L12: Eliminate(%v, %d) = %v, but Between answers %d at %v", list, v, got, err, at)
			}
		}
	}
}

// eliminated is rule L11, word by word.
func eliminated(list []api.Con, v int) []api.Con {
	var out []api.Con
	for i, c := range list {
		lead := coefficient(c.F, v)
		if c.Op != api.ConEq || lead.Sign() == 0 {
			continue
		}
		is := gathered(inverse(new(big.Rat).Neg(lead)), lacking(c.F, v))
		for j, other := range list {
			if j != i {
				out = append(out, api.Con{Op: other.Op, F: gathered(oneTime, lacking(other.F, v), coefficient(other.F, v), is)})
			}
		}
		return out
	}
	for _, c := range list {
		if coefficient(c.F, v).Sign() == 0 {
			out = append(out, c)
		}
	}
	for _, low := range list {
		for _, up := range list {
			a, b := coefficient(low.F, v), coefficient(up.F, v)
			if a.Sign() < 0 && b.Sign() > 0 {
				op := api.ConLe
				if low.Op == api.ConLt || up.Op == api.ConLt {
					op = api.ConLt
				}
				out = append(out, api.Con{Op: op, F: gathered(inverse(size(a)), low.F, inverse(b), up.F)})
			}
		}
	}
	return out
}

func TestBetween(t *testing.T) {
	for _, r := range []struct {
		cons []api.Con
		v    int
		at   []string
		want string
		err  api.Errno
	}{
		{nil, 0, nil, "0", api.OK},
		{cons(always), 3, texts("9"), "0", api.OK},
		{cons(never), 0, nil, "", api.ErrOrder},
		{cons(le("-3", 0, "1")), 0, nil, "0", api.OK},
		{cons(le("3", 0, "1")), 0, nil, "-4", api.OK},
		{cons(le("3", 0, "-1")), 0, nil, "4", api.OK},
		{cons(lt("0", 0, "1")), 0, nil, "-1", api.OK},
		{cons(le("0", 0, "1"), le("0", 0, "-1")), 0, nil, "0", api.OK},
		{cons(le("0", 0, "1"), lt("0", 0, "-1")), 0, nil, "", api.ErrOrder},
		{cons(lt("0", 0, "1"), le("0", 0, "-1")), 0, nil, "", api.ErrOrder},
		{cons(le("0", 0, "1"), le("0", 0, "-1"), lt("0", 0, "3")), 0, nil, "", api.ErrOrder},
		{cons(le("1", 0, "1"), le("0", 0, "-1")), 0, nil, "", api.ErrOrder},
		{cons(le("-1", 0, "1"), le("-2", 0, "1"), le("-5", 0, "-1"), le("0", 0, "-1")), 0, nil, "1/2", api.OK},
		{cons(eq("0", 0, "2", 1, "-1")), 0, texts("9", "5"), "5/2", api.OK},
		{cons(eq("0", 0, "2", 1, "-1"), lt("0", 0, "1")), 0, texts("9", "5"), "", api.ErrOrder},
		{cons(le("-5/2", 0, "1"), eq("0", 0, "2", 1, "-1")), 0, texts("9", "5"), "5/2", api.OK},
		{cons(eq("-1", 0, "1"), eq("-2", 0, "1")), 0, nil, "", api.ErrOrder},
		{cons(eq("-1", 0, "1"), eq("-2", 0, "2")), 0, nil, "1", api.OK},
		{cons(eq("-1", 0, "1"), never), 0, nil, "", api.ErrOrder},
		{cons(le("1", 1, "1")), 0, texts("0", "5"), "", api.ErrOrder},
		{cons(eq("-5", 1, "1")), 0, texts("0", "5"), "0", api.OK},
		{cons(eq("-5", 1, "1"), lt("7", 0, "-1")), 0, texts("0", "4"), "", api.ErrOrder},
		{cons(lt("0", 1, "-1", 2, "1"), lt("0", 1, "2", 3, "-1")), 1, texts("100", "100", "1", "3"), "4/3", api.OK},
		{cons(le("3", 1<<40, "-1")), 1 << 40, texts("1"), "4", api.OK},
	} {
		x, err := lin.Between(r.cons, r.v, r.at)
		expect(t, "L12: Between", x, err, r.want, r.err)
	}
	var d dice = 8
	found := 0
	for i := range 2000 {
		ops := []int{api.ConLe, api.ConLt}
		if i%3 == 0 {
			ops = nil
		}
		list, v, at := d.cons(3, d.upTo(5), ops...), d.upTo(4), d.point(3)
		want, wantErr := between(list, v, at)
		x, err := lin.Between(list, v, at)
		expect(t, "L12: Between", x, err, want, wantErr)
		if err == api.OK {
			found++
			if !allMet(list, with(at, v, x)) {
				t.Errorf("L12: Between(%v, %d, %v) = %s, with which not all hold", list, v, at, x)
			}
		}
	}
	if found < 300 || found > 1900 {
		t.Errorf("%d of 2000 have an answer: too one-sided a trial", found)
	}
}

// between is rule L12, word by word.
func between(list []api.Con, v int, at []string) (string, api.Errno) {
	still := with(at, v, "0")
	var lo, hi *big.Rat
	for _, c := range list {
		lead := coefficient(c.F, v)
		if lead.Sign() == 0 {
			continue
		}
		x := new(big.Rat).Quo(worth(c.F, still), new(big.Rat).Neg(lead))
		switch {
		case c.Op == api.ConEq:
			if allMet(list, with(at, v, text(x))) {
				return text(x), api.OK
			}
			return "", api.ErrOrder
		case lead.Sign() < 0 && (lo == nil || x.Cmp(lo) > 0):
			lo = x
		case lead.Sign() > 0 && (hi == nil || x.Cmp(hi) < 0):
			hi = x
		}
	}
	var low, high string
	if lo != nil {
		low = text(lo)
	}
	if hi != nil {
		high = text(hi)
	}
	x := low
	if lo == nil || low != high {
		x, _ = num.Simplest(low, high)
	}
	if x == "" || !allMet(list, with(at, v, x)) {
		return "", api.ErrOrder
	}
	return x, api.OK
}

func TestDelta(t *testing.T) {
	var d dice = 9
	some := func() api.Delta { return delta(text(d.number()), text(d.number())) }
	for range 1000 {
		a, b, c := some(), some(), d.number()
		sum, err := lin.DAdd(a, b)
		expect(t, "L13: DAdd", sum, err, delta(text(new(big.Rat).Add(rat(a.A), rat(b.A))), text(new(big.Rat).Add(rat(a.B), rat(b.B)))), api.OK)
		product, err := lin.DScale(a, text(c))
		expect(t, "L13: DScale", product, err, delta(text(new(big.Rat).Mul(rat(a.A), c)), text(new(big.Rat).Mul(rat(a.B), c))), api.OK)
		order := rat(a.A).Cmp(rat(b.A))
		if order == 0 {
			order = rat(a.B).Cmp(rat(b.B))
		}
		n, err := lin.DCmp(a, b)
		expect(t, "L13: DCmp", n, err, order, api.OK)
		f := d.form(5)
		var at []api.Delta
		var plain, small []string
		for range d.upTo(7) {
			x := some()
			at, plain, small = append(at, x), append(plain, x.A), append(small, x.B)
		}
		x, err := lin.DValue(f, at)
		expect(t, "L13: DValue", x, err, delta(text(worth(f, plain)), text(worth(api.Lin{M: f.M, K: "0"}, small))), api.OK)
		s, err := lin.At(a, text(c))
		expect(t, "L13: At", s, err, text(new(big.Rat).Add(rat(a.A), new(big.Rat).Mul(rat(a.B), c))), api.OK)
	}
	for _, r := range []struct {
		a, b api.Delta
		want int
	}{
		{delta("1", "-1"), delta("1", "0"), -1}, {delta("1", "0"), delta("1", "0"), 0}, {delta("1", "1"), delta("1", "0"), 1}, {delta("2", "-100"), delta("1", "100"), 1}, {delta("-1/2", "9"), delta("-1/3", "-9"), -1},
	} {
		n, err := lin.DCmp(r.a, r.b)
		expect(t, "L13: DCmp", n, err, r.want, api.OK)
	}
	x, err := lin.DValue(form("5", 1<<40, "2"), deltas(delta("1", "1")))
	expect(t, "L13: DValue beyond the end", x, err, delta("5", "0"), api.OK)
}

func TestPick(t *testing.T) {
	for _, r := range []struct {
		pairs []api.Pair
		want  string
		err   api.Errno
	}{
		{nil, "1", api.OK}, {pairs(), "1", api.OK},
		{pairs(pair("0", "1", "5", "-1")), "1", api.OK},
		{pairs(pair("0", "1", "2", "-1")), "1", api.OK},
		{pairs(pair("0", "1", "1/2", "-1"), pair("3", "4", "4", "-4")), "1/8", api.OK},
		{pairs(pair("3", "4", "4", "-4"), pair("0", "1", "1/2", "-1")), "1/8", api.OK},
		{pairs(pair("1", "1", "1", "1")), "1", api.OK},
		{pairs(pair("1", "0", "1", "5")), "1", api.OK},
		{pairs(pair("0", "-9", "1/100", "9")), "1", api.OK},
		{pairs(pair("0", "3", "1/100", "3")), "1", api.OK},
		{pairs(pair("-1/3", "2", "0", "1")), "1/3", api.OK},
		{pairs(pair("1", "1", "1", "0")), "", api.ErrOrder},
		{pairs(pair("0", "1", "1/2", "-1"), pair("2", "-5", "1", "5")), "", api.ErrOrder},
	} {
		x, err := lin.Pick(r.pairs)
		expect(t, "L14: Pick", x, err, r.want, r.err)
	}
	var d dice = 10
	for range 1000 {
		var list []api.Pair
		least, order := big.NewRat(1, 1), api.OK
		for range d.upTo(4) {
			a, b := delta(text(d.number()), text(d.number())), delta(text(d.number()), text(d.number()))
			if n, _ := lin.DCmp(a, b); n > 0 {
				if d.upTo(10) > 0 {
					a, b = b, a
				} else {
					order = api.ErrOrder
				}
			}
			list = append(list, api.Pair{Lo: a, Hi: b})
			room, closing := new(big.Rat).Sub(rat(b.A), rat(a.A)), new(big.Rat).Sub(rat(a.B), rat(b.B))
			if room.Sign() > 0 && closing.Sign() > 0 {
				if meet := room.Quo(room, closing); meet.Cmp(least) < 0 {
					least = meet
				}
			}
		}
		want := text(least)
		if order != api.OK {
			want = ""
		}
		x, err := lin.Pick(list)
		expect(t, "L14: Pick", x, err, want, order)
	}
}
