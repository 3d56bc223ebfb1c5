package world_test

import (
	"slices"
	"testing"

	"arbiter/api"
	"arbiter/world"
)

// chapter is the bank of the chapter's examples, and the terms that it tells the worth of.
func chapter(t *testing.T) (api.Bank, []int) {
	m := newMaker(t, "U")
	f, a, g, x := m.fun("f", 2, 2), m.fun("a", 2), m.fun("g", 0, 2, 1), m.fun("x", 1)
	ta, tx := m.app(a), m.app(x)
	fa := m.app(f, ta)
	ffa := m.app(f, fa)
	one, minus := m.num("1"), m.num("-3")
	terms := []int{
		ta, fa, ffa, m.app(g, fa, tx), m.op(api.OpAdd, tx, one, one), m.op(api.OpDistinct, ta, fa, ta),
		m.op(api.OpIte, m.op(api.OpEq, tx, minus), ffa, ta),
	}
	return m.Export(), terms
}

func chapterModel() api.Model {
	return model(
		table(elem(0), row(elem(0), elem(1)), row(elem(2), elem(0)), row(elem(5), elem(1))),
		table(elem(1)),
		table(truth(0), row(truth(1), elem(2), number("1/2")), row(truth(1), elem(0), number("-3"))),
		table(number("-3")),
	)
}

const chapterText = `(
  (define-fun f ((x0 U)) U (ite (= x0 (as @0 U)) (as @2 U) (as @0 U)))
  (define-fun a () U (as @1 U))
  (define-fun g ((x0 U) (x1 Real)) Bool (ite (and (= x0 (as @0 U)) (= x1 (- 3.0))) true (ite (and (= x0 (as @2 U)) (= x1 (/ 1.0 2.0))) true false)))
  (define-fun x () Real (- 3.0))
)
`

func TestChapterExamples(t *testing.T) {
	b, terms := chapter(t)
	m := chapterModel()
	if e, at := world.Check(b, m); e != api.OK || at != 0 {
		t.Fatalf("W2: %d, %d", e, at)
	}
	want := model(
		table(elem(0), row(elem(2), elem(0))),
		table(elem(1)),
		table(truth(0), row(truth(1), elem(0), number("-3")), row(truth(1), elem(2), number("1/2"))),
		table(number("-3")),
	)
	if n := tidy(t, b, m); !sameModel(n, want) {
		t.Errorf("W3: %+v", n)
	}
	if s := shown(t, b, m); s != chapterText {
		t.Errorf("W7: %s", s)
	}
	if n := read(t, b, chapterText); !sameModel(n, want) {
		t.Errorf("W9: %+v", n)
	}
	for i, v := range []api.Value{elem(1), elem(0), elem(2), truth(1), number("-1"), truth(0), elem(2)} {
		if got := eval(t, b, m, terms[i]); got != v {
			t.Errorf("W4: the term %d is worth %v, want %v", terms[i], got, v)
		}
	}
}

// A row for each kind of thing that makes no structure, each at its own function.
func TestCheck(t *testing.T) {
	b := api.Bank{Sorts: []string{"U", "V"}, Funs: []api.Fun{{Name: "p"}, {Name: "x", Out: 1}, {Name: "u", Out: 2}, {Name: "g", Args: []int{0, 1, 2}, Out: 3}}}
	v := func(n int) api.Value { return api.Value{Sort: 3, N: n} }
	good := func() api.Model {
		return model(table(truth(1)), table(number("22/7"), row(number("0"))), table(elem(1<<63-1)),
			table(v(0), row(v(1), truth(0), number("-1/3"), elem(0)), row(v(1), truth(0), number("-1/3"), elem(0))))
	}
	if e, at := world.Check(b, good()); e != api.OK || at != 0 {
		t.Fatalf("W2: a structure: %d, %d", e, at)
	}
	for name, c := range map[string]struct {
		spoil func(m *api.Model)
		at    int
	}{
		"truth 2":                {func(m *api.Model) { m.Tables[0].Else = truth(2) }, 0},
		"truth -1":               {func(m *api.Model) { m.Tables[0].Else = truth(-1) }, 0},
		"truth with a text":      {func(m *api.Model) { m.Tables[0].Else.R = "1" }, 0},
		"another sort":           {func(m *api.Model) { m.Tables[0].Else = number("1") }, 0},
		"a sort below 0":         {func(m *api.Model) { m.Tables[0].Else.Sort = -1 }, 0},
		"no number":              {func(m *api.Model) { m.Tables[1].Else = number("") }, 1},
		"no canonical number":    {func(m *api.Model) { m.Tables[1].Else = number("2/4") }, 1},
		"a number with a zero":   {func(m *api.Model) { m.Tables[1].Else = number("-0") }, 1},
		"a decimal":              {func(m *api.Model) { m.Tables[1].Else = number("1.5") }, 1},
		"a number with N":        {func(m *api.Model) { m.Tables[1].Else.N = 1 }, 1},
		"a constant's row":       {func(m *api.Model) { m.Tables[1].Rows[0].Out = number("0/1") }, 1},
		"a constant's arguments": {func(m *api.Model) { m.Tables[1].Rows[0].Args = []api.Value{number("0")} }, 1},
		"an element below 0":     {func(m *api.Model) { m.Tables[2].Else = elem(-1) }, 2},
		"an element with a text": {func(m *api.Model) { m.Tables[2].Else.R = "0" }, 2},
		"another declared sort":  {func(m *api.Model) { m.Tables[2].Else = v(0) }, 2},
		"no sort of the bank":    {func(m *api.Model) { m.Tables[2].Else.Sort = 4 }, 2},
		"too few arguments":      {func(m *api.Model) { m.Tables[3].Rows[1].Args = m.Tables[3].Rows[1].Args[:2] }, 3},
		"too many arguments":     {func(m *api.Model) { m.Tables[3].Rows[1].Args = append(m.Tables[3].Rows[1].Args, truth(0)) }, 3},
		"no arguments":           {func(m *api.Model) { m.Tables[3].Rows[0].Args = nil }, 3},
		"the first argument":     {func(m *api.Model) { m.Tables[3].Rows[1].Args[0] = number("0") }, 3},
		"the second argument":    {func(m *api.Model) { m.Tables[3].Rows[1].Args[1] = number("1/1") }, 3},
		"the last argument":      {func(m *api.Model) { m.Tables[3].Rows[1].Args[2] = elem(-7) }, 3},
		"a row's worth":          {func(m *api.Model) { m.Tables[3].Rows[1].Out = elem(1) }, 3},
		"all else":               {func(m *api.Model) { m.Tables[3].Else = v(-1) }, 3},
		"a table of zeros":       {func(m *api.Model) { m.Tables[3] = api.Table{} }, 3},
		"a table too few":        {func(m *api.Model) { m.Tables = m.Tables[:3] }, 3},
		"no tables":              {func(m *api.Model) { m.Tables = nil }, 0},
		"a table too many":       {func(m *api.Model) { m.Tables = append(m.Tables, table(truth(0))) }, 4},
		"too many, one is none":  {func(m *api.Model) { m.Tables = append(m.Tables, table(truth(0))); m.Tables[2].Else = elem(-1) }, 2},
		"the first of two":       {func(m *api.Model) { m.Tables[1].Else, m.Tables[3].Else = truth(0), truth(0) }, 1},
		"too few, one is none":   {func(m *api.Model) { m.Tables = m.Tables[:2]; m.Tables[1].Else = truth(0) }, 1},
	} {
		m := good()
		c.spoil(&m)
		refused(t, "W2: "+name, b, m, api.ErrModel, c.at)
	}
	if e, at := world.Check(api.Bank{}, api.Model{}); e != api.OK || at != 0 {
		t.Errorf("W2: of nothing: %d, %d", e, at)
	}
	if e, at := world.Check(api.Bank{}, model(table(truth(0)))); e != api.ErrModel || at != 0 {
		t.Errorf("W2: a table of no function: %d, %d", e, at)
	}
}

// refused looks that each call to which a structure is handed has that error, ahead of its own ones.
func refused(t *testing.T, name string, b api.Bank, m api.Model, want api.Errno, place int) {
	t.Helper()
	if e, at := world.Check(b, m); e != want || at != place {
		t.Errorf("%s: Check: %d, %d, want %d, %d", name, e, at, want, place)
	}
	if n, e := world.Tidy(b, m); e != want || len(n.Tables) > 0 {
		t.Errorf("%s: Tidy: %v, %d, want %d", name, n, e, want)
	}
	if v, e := world.Eval(b, m, -1); e != want || v != (api.Value{}) {
		t.Errorf("%s: Eval: %v, %d, want %d", name, v, e, want)
	}
	if n, e := world.Holds(b, m, []int{-1}); e != want || n != 0 {
		t.Errorf("%s: Holds: %d, %d, want %d", name, n, e, want)
	}
	if s, e := world.Show(b, m); e != want || s != "" {
		t.Errorf("%s: Show: %q, %d, want %d", name, s, e, want)
	}
}

// What is no bank is told ahead of all else.
func TestNoBank(t *testing.T) {
	for _, c := range []struct {
		spoil func(b *api.Bank)
		want  api.Errno
	}{
		{func(b *api.Bank) { b.Funs[0].Out = 3 }, api.ErrIndex},
		{func(b *api.Bank) { b.Terms[0].Op = 21 }, api.ErrOp},
		{func(b *api.Bank) { b.Terms[4].Num = "2/4" }, api.ErrText},
		{func(b *api.Bank) { b.Terms[0].Sort = 1 }, api.ErrSort},
		{func(b *api.Bank) { b.Terms[2].Args = []int{1} }, api.ErrSort},
		{func(b *api.Bank) { b.Terms[2].Args = []int{2} }, api.ErrIndex},
		{func(b *api.Bank) {
			b.Terms = append(b.Terms, api.Term{Op: api.OpMul, Args: []int{1, 1}, Sort: 1})
		}, api.ErrLinear},
	} {
		b, _ := chapter(t)
		c.spoil(&b)
		b.Funs[1].Name, b.Sorts[0] = "a|b", "\x00"
		refused(t, "no bank", b, model(table(truth(7))), c.want, 0)
		refused(t, "no bank", b, chapterModel(), c.want, 0)
		if s, e := world.Spell(b, api.Value{Sort: 9}); e != c.want || s != "" {
			t.Errorf("W6: no bank: %q, %d, want %d", s, e, c.want)
		}
		if m, e, place := world.Read(b, ")"); e != c.want || place != 0 || len(m.Tables) > 0 {
			t.Errorf("W8: no bank: %v, %d at %d, want %d", m, e, place, c.want)
		}
	}
}

func TestTidy(t *testing.T) {
	b := api.Bank{Sorts: []string{"U"}, Funs: []api.Fun{{Args: []int{1}, Out: 1}, {Args: []int{0, 2}, Out: 0}, {Out: 2}, {Args: []int{2}, Out: 2}}}
	zero, one := number("0"), number("1")
	m := model(
		table(one, row(one, number("5")), row(zero, number("10")), row(zero, number("9")), row(zero, number("-1/2")), row(zero, number("-1/3")), row(zero, number("5")), row(zero, number("1/2")), row(zero, number("-2")), row(zero, zero)),
		table(truth(0), row(truth(1), truth(1), elem(0)), row(truth(1), truth(0), elem(11)), row(truth(1), truth(0), elem(2)), row(truth(0), truth(1), elem(1)), row(truth(1), truth(1), elem(1))),
		table(elem(4), row(elem(3)), row(elem(2))),
		table(elem(0)),
	)
	want := model(
		table(one, row(zero, number("-2")), row(zero, number("-1/2")), row(zero, number("-1/3")), row(zero, zero), row(zero, number("1/2")), row(zero, number("9")), row(zero, number("10"))),
		table(truth(0), row(truth(1), truth(0), elem(2)), row(truth(1), truth(0), elem(11)), row(truth(1), truth(1), elem(0))),
		table(elem(3)),
		table(elem(0)),
	)
	n := tidy(t, b, m)
	if !sameModel(n, want) {
		t.Errorf("W3: %+v, want %+v", n, want)
	}
	if again := tidy(t, b, n); !sameModel(again, n) {
		t.Errorf("W3: a canonical one is changed: %+v", again)
	}
	if n := tidy(t, api.Bank{}, api.Model{}); len(n.Tables) != 0 {
		t.Errorf("W3: of nothing: %+v", n)
	}
	// Over Bool a full table stays full: each row tells another worth than Else, which is never met.
	full := model(table(elem(9), row(elem(1), truth(1)), row(elem(2), truth(0))))
	b = api.Bank{Sorts: []string{"U"}, Funs: []api.Fun{{Args: []int{0}, Out: 2}}}
	if n := tidy(t, b, full); !sameModel(n, model(table(elem(9), row(elem(2), truth(0)), row(elem(1), truth(1))))) {
		t.Errorf("W3: a full table: %+v", n)
	}
}

// operators is a bank with truths p, q, r, numbers x, y, z, elements a, b, c, and the structure in which they have these worths.
func operators(t *testing.T, truths, numbers, elems []api.Value) (maker, [3][]int, api.Model) {
	m := newMaker(t, "U")
	var terms [3][]int
	var made api.Model
	for kind, list := range [][]api.Value{truths, numbers, elems} {
		for _, v := range list {
			terms[kind] = append(terms[kind], m.app(m.fun("c", v.Sort)))
			made.Tables = append(made.Tables, table(v))
		}
	}
	return m, terms, made
}

// Each operator of sort Bool at all truths, of two and of three arguments.
func TestEvalTruths(t *testing.T) {
	for bits := range 8 {
		p, q, r := bits&1, bits>>1&1, bits>>2&1
		m, terms, in := operators(t, []api.Value{truth(p), truth(q), truth(r)}, nil, nil)
		two, three := terms[0][:2], terms[0]
		last := func(a, b, c int) int { return max(1-a, 1-b, c) }
		for _, c := range []struct {
			op         int
			two, three int
		}{
			{api.OpImplies, max(1-p, q), last(p, q, r)},
			{api.OpAnd, min(p, q), min(p, q, r)},
			{api.OpOr, max(p, q), max(p, q, r)},
			{api.OpXor, p ^ q, p ^ q ^ r},
			{api.OpEq, 1 - p ^ q, (1 - p ^ q) & (1 - q ^ r)},
			{api.OpDistinct, p ^ q, 0},
		} {
			a, b := m.op(c.op, two...), m.op(c.op, three...)
			if v, w := eval(t, m.Export(), in, a), eval(t, m.Export(), in, b); v != truth(c.two) || w != truth(c.three) {
				t.Errorf("W4: the operator %d at %d %d %d: %v and %v, want %d and %d", c.op, p, q, r, v, w, c.two, c.three)
			}
		}
		not, yes, no := m.op(api.OpNot, terms[0][0]), m.op(api.OpTrue), m.op(api.OpFalse)
		ite := m.op(api.OpIte, three...)
		want := q
		if p == 0 {
			want = r
		}
		b := m.Export()
		if eval(t, b, in, not) != truth(1-p) || eval(t, b, in, yes) != truth(1) || eval(t, b, in, no) != truth(0) || eval(t, b, in, ite) != truth(want) {
			t.Errorf("W4: not, true, false or ite at %d %d %d", p, q, r)
		}
	}
}

func TestEvalNumbers(t *testing.T) {
	x, y, z := number("-7/3"), number("5"), number("1/6")
	m, terms, in := operators(t, []api.Value{truth(0)}, []api.Value{x, y, z, y}, nil)
	n := terms[1]
	six, half := m.num("6"), m.num("-1/2")
	for _, c := range []struct {
		term int
		want string
	}{
		{six, "6"}, {half, "-1/2"}, {n[0], "-7/3"},
		{m.op(api.OpAdd, n[0], n[2], half), "-8/3"}, {m.op(api.OpAdd, n[0], n[0]), "-14/3"},
		{m.op(api.OpSub, n[0]), "7/3"}, {m.op(api.OpSub, n[0], n[1]), "-22/3"}, {m.op(api.OpSub, n[0], n[1], n[2], n[2]), "-23/3"},
		{m.op(api.OpMul, six, n[0], half), "7"}, {m.op(api.OpMul, n[1], half), "-5/2"},
		{m.op(api.OpDiv, n[0], six), "-7/18"}, {m.op(api.OpDiv, n[0], half, six), "7/9"},
		{m.op(api.OpIte, terms[0][0], n[0], n[2]), "1/6"},
		{m.op(api.OpSub, n[1], n[3]), "0"},
	} {
		if v := eval(t, m.Export(), in, c.term); v != number(c.want) {
			t.Errorf("W4: the term %d is worth %v, want %s", c.term, v, c.want)
		}
	}
	for _, c := range []struct {
		args           []int
		le, lt, ge, gt int
	}{
		{[]int{n[0], n[2]}, 1, 1, 0, 0}, {[]int{n[2], n[0]}, 0, 0, 1, 1}, {[]int{n[1], n[3]}, 1, 0, 1, 0},
		{[]int{n[0], n[2], n[1]}, 1, 1, 0, 0}, {[]int{n[1], n[2], n[0]}, 0, 0, 1, 1},
		{[]int{n[0], n[1], n[3]}, 1, 0, 0, 0}, {[]int{n[1], n[3], n[0]}, 0, 0, 1, 0},
		{[]int{n[0], n[1], n[2]}, 0, 0, 0, 0}, {[]int{n[1], n[0], n[2]}, 0, 0, 0, 0}, {[]int{n[1], n[3], n[1]}, 1, 0, 1, 0},
	} {
		for i, want := range []int{c.le, c.lt, c.ge, c.gt} {
			op := api.OpLe + i
			made := m.op(op, c.args...)
			if v := eval(t, m.Export(), in, made); v != truth(want) {
				t.Errorf("W4: the operator %d at %v is worth %v, want %d", op, c.args, v, want)
			}
		}
	}
	for _, c := range []struct {
		args         []int
		eq, distinct int
	}{
		{[]int{n[1], n[3]}, 1, 0}, {[]int{n[0], n[1]}, 0, 1}, {[]int{n[1], n[0], n[3]}, 0, 0}, {[]int{n[1], n[3], n[1]}, 1, 0}, {[]int{n[2], n[1], n[0]}, 0, 1}, {[]int{n[1], n[3], n[0]}, 0, 0},
	} {
		eq, distinct := m.op(api.OpEq, c.args...), m.op(api.OpDistinct, c.args...)
		v, w := eval(t, m.Export(), in, eq), eval(t, m.Export(), in, distinct)
		if v != truth(c.eq) || w != truth(c.distinct) {
			t.Errorf("W4: = and distinct of %v: %v, %v", c.args, v, w)
		}
	}
}

func TestEvalElements(t *testing.T) {
	m, terms, in := operators(t, []api.Value{truth(1)}, []api.Value{number("1/2")}, []api.Value{elem(3), elem(0), elem(3), elem(1<<63 - 1)})
	e := terms[2]
	f := m.fun("f", 2, 2, 1, 0)
	half := terms[1][0]
	in.Tables = append(in.Tables, table(elem(8), row(elem(0), elem(3), number("1/2"), truth(0)), row(elem(1), elem(3), number("1/2"), truth(1)), row(elem(2), elem(3), number("1/2"), truth(1)), row(elem(5), elem(1<<63-1), number("1/2"), truth(1))))
	for _, c := range []struct {
		term int
		want api.Value
	}{
		{m.app(f, e[0], half, terms[0][0]), elem(1)},
		{m.app(f, e[2], m.num("1/2"), m.op(api.OpTrue)), elem(1)},
		{m.app(f, e[0], half, m.op(api.OpFalse)), elem(0)},
		{m.app(f, e[1], half, terms[0][0]), elem(8)},
		{m.app(f, e[3], half, terms[0][0]), elem(5)},
		{m.op(api.OpEq, e[0], e[2]), truth(1)}, {m.op(api.OpEq, e[0], e[2], e[1]), truth(0)},
		{m.op(api.OpDistinct, e[0], e[1], e[3]), truth(1)}, {m.op(api.OpDistinct, e[0], e[1], e[2]), truth(0)},
		{m.op(api.OpIte, terms[0][0], e[3], e[0]), elem(1<<63 - 1)},
	} {
		if v := eval(t, m.Export(), in, c.term); v != c.want {
			t.Errorf("W4: the term %d is worth %v, want %v", c.term, v, c.want)
		}
	}
	// A constant that has rows is worth the first.
	in.Tables[1].Rows = []api.Row{row(number("7")), row(number("8"))}
	if v := eval(t, m.Export(), in, half); v != number("7") {
		t.Errorf("W4: a constant with rows is worth %v", v)
	}
}

func TestEvalOfNoTerm(t *testing.T) {
	b, _ := chapter(t)
	for _, at := range []int{-1, len(b.Terms), -1 << 63, 1<<63 - 1} {
		if v, e := world.Eval(b, chapterModel(), at); v != (api.Value{}) || e != api.ErrIndex {
			t.Errorf("W4: Eval of %d: %v, %d", at, v, e)
		}
	}
}

func TestHolds(t *testing.T) {
	m := newMaker(t)
	x := m.app(m.fun("x", 1))
	yes, no := m.op(api.OpTrue), m.op(api.OpFalse)
	p := m.op(api.OpLt, x, m.num("1"))
	b, in := m.Export(), model(table(number("0")))
	for _, c := range []struct {
		terms []int
		want  int
		e     api.Errno
	}{
		{nil, -1, api.OK}, {[]int{}, -1, api.OK}, {[]int{yes}, -1, api.OK}, {[]int{no}, 0, api.OK}, {[]int{p, yes, p, yes}, -1, api.OK},
		{[]int{yes, p, no, yes, no}, 2, api.OK}, {[]int{no, no}, 0, api.OK}, {[]int{yes, yes, no}, 2, api.OK},
		{[]int{x}, 0, api.ErrSort}, {[]int{no, x}, 0, api.ErrSort}, {[]int{yes, -1}, 0, api.ErrIndex}, {[]int{no, len(b.Terms)}, 0, api.ErrIndex},
		{[]int{x, -1}, 0, api.ErrIndex}, {[]int{-1, x}, 0, api.ErrIndex}, {[]int{x, 1<<63 - 1}, 0, api.ErrIndex}, {[]int{-1 << 63}, 0, api.ErrIndex},
	} {
		given := slices.Clone(c.terms)
		if n, e := world.Holds(b, in, given); n != c.want || e != c.e || !slices.Equal(given, c.terms) {
			t.Errorf("W5: Holds(%v) = %d, %d, want %d, %d", c.terms, n, e, c.want, c.e)
		}
	}
}

func TestSpell(t *testing.T) {
	b := api.Bank{Sorts: []string{"U", "a|b", "V w", "", "let", "Bool", "Ünder", "x\x7f"}}
	of := func(sort, n int) api.Value { return api.Value{Sort: sort, N: n} }
	for _, c := range []struct {
		v    api.Value
		want string
		e    api.Errno
	}{
		{truth(0), "false", api.OK}, {truth(1), "true", api.OK},
		{number("0"), "0.0", api.OK}, {number("12"), "12.0", api.OK}, {number("-12"), "(- 12.0)", api.OK}, {number("5/7"), "(/ 5.0 7.0)", api.OK}, {number("-5/7"), "(- (/ 5.0 7.0))", api.OK},
		{elem(0), "(as @0 U)", api.OK}, {elem(1<<63 - 1), "(as @9223372036854775807 U)", api.OK},
		{of(4, 7), "(as @7 |V w|)", api.OK}, {of(5, 10), "(as @10 ||)", api.OK}, {of(6, 1), "(as @1 |let|)", api.OK}, {of(7, 1), "(as @1 Bool)", api.OK}, {of(8, 1), "(as @1 |Ünder|)", api.OK},
		{of(3, 0), "", api.ErrName}, {of(9, 5), "", api.ErrName},
		{of(3, -1), "", api.ErrModel}, {api.Value{Sort: 3, R: "0"}, "", api.ErrModel},
		{of(10, 0), "", api.ErrModel}, {of(-1, 0), "", api.ErrModel}, {of(1<<63-1, 0), "", api.ErrModel}, {of(-1<<63, 0), "", api.ErrModel},
		{truth(2), "", api.ErrModel}, {truth(-1), "", api.ErrModel}, {api.Value{R: "0"}, "", api.ErrModel},
		{number(""), "", api.ErrModel}, {number("1/1"), "", api.ErrModel}, {number("x"), "", api.ErrModel}, {api.Value{Sort: 1, N: 1, R: "1"}, "", api.ErrModel},
		{elem(-1), "", api.ErrModel}, {api.Value{Sort: 2, R: "1"}, "", api.ErrModel},
	} {
		if s, e := world.Spell(b, c.v); s != c.want || e != c.e {
			t.Errorf("W6: Spell(%v) = %q, %d, want %q, %d", c.v, s, e, c.want, c.e)
		}
	}
}

func TestShow(t *testing.T) {
	if s := shown(t, api.Bank{}, api.Model{}); s != "(\n)\n" {
		t.Errorf("W7: of nothing: %q", s)
	}
	b := api.Bank{
		Sorts: []string{"my sort", "a|b", "U"},
		Funs:  []api.Fun{{Name: "let", Out: 2}, {Name: "", Args: []int{1}, Out: 0}, {Name: "1", Args: []int{0, 0, 4}, Out: 1}},
	}
	u := func(n int) api.Value { return api.Value{Sort: 4, N: n} }
	m := model(
		table(elem(3), row(elem(12)), row(elem(4))),
		table(truth(1), row(truth(0), number("1/2")), row(truth(1), number("0")), row(truth(0), number("-1/2"))),
		table(number("-1"), row(number("2"), truth(1), truth(0), u(10)), row(number("1/3"), truth(1), truth(0), u(9))),
	)
	const want = `(
  (define-fun |let| () |my sort| (as @12 |my sort|))
  (define-fun || ((x0 Real)) Bool (ite (= x0 (- (/ 1.0 2.0))) false (ite (= x0 (/ 1.0 2.0)) false true)))
  (define-fun |1| ((x0 Bool) (x1 Bool) (x2 U)) Real (ite (and (= x0 true) (= x1 false) (= x2 (as @9 U))) (/ 1.0 3.0) (ite (and (= x0 true) (= x1 false) (= x2 (as @10 U))) 2.0 (- 1.0))))
)
`
	if s := shown(t, b, m); s != want {
		t.Errorf("W7: %s", s)
	}
	if n := read(t, b, want); !sameModel(n, tidy(t, b, m)) {
		t.Errorf("W9: %+v", n)
	}
	// A name that cannot be quoted counts if a function has it, wherever it stands.
	for _, f := range []api.Fun{{Name: "p|"}, {Name: "p\\"}, {Name: "\x01"}, {Name: "\xff"}, {Name: "p", Args: []int{3}}, {Name: "p", Args: []int{2, 3, 2}}} {
		other := api.Bank{Sorts: b.Sorts, Funs: append(slices.Clone(b.Funs), f)}
		n := cloneModel(m)
		n.Tables = append(n.Tables, table(truth(0)))
		if s, e := world.Show(other, n); s != "" || e != api.ErrName {
			t.Errorf("W7: the function %+v: %q, %d", f, s, e)
		}
		if again, e := world.Tidy(other, n); e != api.OK || len(again.Tables) != 4 {
			t.Errorf("W3: the function %+v: %d", f, e)
		}
		n.Tables[3].Else = truth(2)
		if s, e := world.Show(other, n); s != "" || e != api.ErrModel {
			t.Errorf("W7: the function %+v without a structure: %q, %d", f, s, e)
		}
	}
	out := api.Bank{Sorts: []string{"a|b"}, Funs: []api.Fun{{Name: "c", Out: 2}}}
	if s, e := world.Show(out, model(table(elem(0)))); s != "" || e != api.ErrName {
		t.Errorf("W7: the sort of a function's worth: %q, %d", s, e)
	}
}
