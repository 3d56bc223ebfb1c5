package world_test

import (
	"math/big"
	"slices"
	"strconv"
	"strings"
	"testing"

	"arbiter/api"
	"arbiter/world"
)

// P0.6: numbers of any length; and terms that are used again and again, as deep as a bank is long.
func TestLongNumbers(t *testing.T) {
	m := newMaker(t)
	x := m.app(m.fun("x", 1))
	top := x
	const steps = 40000
	for range steps {
		top = m.op(api.OpAdd, top, top)
	}
	part := m.op(api.OpDiv, x, m.num("3"))
	for range 3000 {
		part = m.op(api.OpDiv, m.op(api.OpAdd, part, x), m.num("3"))
	}
	in := model(table(number("-1/3")))
	want := new(big.Rat).SetFrac(new(big.Int).Neg(new(big.Int).Lsh(big.NewInt(1), steps)), big.NewInt(3))
	if v := eval(t, m.Export(), in, top); v != number(want.RatString()) {
		t.Errorf("P0.6: a sum of itself, %d times: %d digits", steps, len(v.R))
	}
	q, third := big.NewRat(-1, 9), big.NewRat(-1, 3)
	for range 3000 {
		q.Quo(q.Add(q, third), big.NewRat(3, 1))
	}
	if v := eval(t, m.Export(), in, part); v != number(q.RatString()) {
		t.Errorf("P0.6: thirds of thirds: %d digits", len(v.R))
	}
	long := "1" + strings.Repeat("0", 20000)
	in = model(table(number("-7/" + long)))
	if v := eval(t, m.Export(), in, x); v != number("-7/"+long) {
		t.Errorf("P0.6: a long number: %d digits", len(v.R))
	}
	if s := shown(t, m.Export(), in); s != "(\n  (define-fun x () Real (- (/ 7.0 "+long+".0)))\n)\n" {
		t.Errorf("P0.6: a long number is shown as %d bytes", len(s))
	}
	if n := read(t, m.Export(), "((define-fun x () Real (- (/ 7 "+long+"))))"); !sameModel(n, in) {
		t.Error("P0.6: a long number is read as another")
	}
}

// P0.7: terms that nest as deep as a bank can be long.
func TestDeepTerms(t *testing.T) {
	m := newMaker(t, "U")
	f, a, p := m.fun("f", 2, 2), m.fun("a", 2), m.fun("p", 0)
	u, q := m.app(a), m.app(p)
	first := q
	for range 49000 {
		u = m.app(f, u)
	}
	for range 49000 {
		q = m.op(api.OpXor, q, q, first)
	}
	in := model(table(elem(0), row(elem(1), elem(0)), row(elem(2), elem(1))), table(elem(1)), table(truth(1)))
	b := m.Export()
	// From 1 on f goes round: 1, 2, 0, 1.
	if v := eval(t, b, in, u); v != elem((1+49000)%3) {
		t.Errorf("P0.7: f, 49000 times: %v", v)
	}
	if n, e := world.Holds(b, in, []int{q, first, q}); n != -1 || e != api.OK {
		t.Errorf("P0.7: xor, 49000 times: %d, %d", n, e)
	}
}

// Tables with very many rows are looked up in, shown and read.
func TestLargeTables(t *testing.T) {
	const count = 60000
	m := newMaker(t, "U")
	f := m.fun("f", 2, 1, 2)
	var rows []api.Row
	for i := range count {
		n := i * 7919 % count
		rows = append(rows, row(elem(n+1), number(strconv.Itoa(n-count/2)), elem(n)))
	}
	in := model(table(elem(0), rows...))
	g := m.fun("g", 2)
	in.Tables = append(in.Tables, table(elem(0)))
	u := m.app(g)
	for i := range 30000 { // each asks for the row that the one ahead of it leads to
		u = m.app(f, m.num(strconv.Itoa(i-count/2)), u)
	}
	b := m.Export()
	if v := eval(t, b, in, u); v != elem(30000) {
		t.Errorf("W4: through the rows: %v", v)
	}
	n := tidy(t, b, in)
	sorted := slices.IsSortedFunc(n.Tables[0].Rows, func(r, s api.Row) int { return r.Args[1].N - s.Args[1].N })
	if len(n.Tables[0].Rows) != count || !sorted {
		t.Error("W3: the rows are not in order")
	}
	if again := read(t, b, shown(t, b, in)); !sameModel(again, n) {
		t.Error("W9: a large table is read as another")
	}
}

// Of very many rows with the same arguments the first counts.
func TestRowsOfTheSameArguments(t *testing.T) {
	b := api.Bank{Sorts: []string{"U"}, Funs: []api.Fun{{Name: "f", Args: []int{2, 1}, Out: 2}}}
	in := model(table(elem(0)))
	for i := range 5000 {
		in.Tables[0].Rows = append(in.Tables[0].Rows, row(elem(i%4999), elem(i*i%37), number(strconv.Itoa(i%11-5)+"/7")))
		if i%11 == 5 {
			in.Tables[0].Rows[i].Args[1].R = "0"
		}
	}
	want := plainTidy(b, in)
	if n := tidy(t, b, in); !sameModel(n, want) {
		t.Errorf("W3: of many rows: %+v, want %+v", n, want)
	}
}

// An operator may have very many arguments.
func TestManyArguments(t *testing.T) {
	m := newMaker(t)
	f := m.fun("f", 1, 1)
	in := model(table(number("5")))
	var args []int
	for i := range 40000 {
		n := strconv.Itoa(i)
		args = append(args, m.app(f, m.num(n)))
		in.Tables[0].Rows = append(in.Tables[0].Rows, row(number(strconv.Itoa(-i)), number(n)))
	}
	all, down := m.op(api.OpDistinct, args...), m.op(api.OpGt, args...)
	twice := m.op(api.OpDistinct, append(slices.Clone(args), args[0])...)
	sum := m.op(api.OpAdd, args...)
	factors := []int{args[1]}
	for range 40000 {
		factors = append(factors, m.num("3/2"))
	}
	product := m.op(api.OpMul, factors...)
	b := m.Export()
	if n, e := world.Holds(b, in, []int{all, down, twice}); n != 2 || e != api.OK {
		t.Errorf("W5: of many arguments: %d, %d", n, e)
	}
	if v := eval(t, b, in, sum); v != number("-799980000") {
		t.Errorf("W4: the sum of many: %v", v)
	}
	power := new(big.Int).Exp(big.NewInt(3), big.NewInt(40000), nil)
	want := new(big.Rat).SetFrac(power.Neg(power), new(big.Int).Lsh(big.NewInt(1), 40000))
	if v := eval(t, b, in, product); v != number(want.RatString()) {
		t.Error("W4: the product of many")
	}
}

// P0.7: texts that nest very deep.
func TestDeepTexts(t *testing.T) {
	b := api.Bank{Funs: []api.Fun{{Name: "x", Out: 1}}}
	const deep = 60000
	in := func(body string) string { return "((define-fun x () Real " + body + "))" }
	if m := read(t, b, in(strings.Repeat("(- ", deep+1)+"7"+strings.Repeat(")", deep+1))); !sameModel(m, model(table(number("-7")))) {
		t.Errorf("P0.7: an opposite of opposites: %+v", m)
	}
	m := read(t, b, in(strings.Repeat("(/ ", deep)+"7"+strings.Repeat(" 12.5)", deep)))
	want := new(big.Rat).SetFrac(big.NewInt(7), new(big.Int).Exp(big.NewInt(25), big.NewInt(deep), nil))
	want.Mul(want, new(big.Rat).SetInt(new(big.Int).Lsh(big.NewInt(1), deep)))
	if !sameModel(m, model(table(number(want.RatString())))) {
		t.Error("P0.7: a quotient of quotients")
	}
	m = read(t, b, in(strings.Repeat("(/ 2 ", deep)+"7"+strings.Repeat(")", deep)))
	if !sameModel(m, model(table(number("7")))) { // two over it, and two over that
		t.Error("P0.7: a quotient by quotients")
	}
	text := in(strings.Repeat("(- ", deep) + "true" + strings.Repeat(")", deep))
	if _, e, at := world.Read(b, text); e != api.ErrSyntax || at != strings.Index(text, "true") {
		t.Errorf("P0.7: %d at %d", e, at)
	}
	if _, e, at := world.Read(b, strings.Repeat("(", deep)+strings.Repeat(")", deep)); e != api.ErrSyntax || at != 1 {
		t.Errorf("P0.7: lists alone: %d at %d", e, at)
	}
	if _, e, at := world.Read(b, strings.Repeat("(", deep)); e != api.ErrOpen || at != 0 {
		t.Errorf("P0.7: open lists alone: %d at %d", e, at)
	}
}
