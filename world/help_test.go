package world_test

import (
	"math/big"
	"slices"
	"testing"

	"arbiter/api"
	"arbiter/term"
	"arbiter/world"
)

func truth(n int) api.Value { return api.Value{Sort: api.SortBool, N: n} }

func number(r string) api.Value { return api.Value{Sort: api.SortReal, R: r} }

// elem is the element n of the first declared sort.
func elem(n int) api.Value { return api.Value{Sort: api.SortFirst, N: n} }

func row(out api.Value, args ...api.Value) api.Row { return api.Row{Args: args, Out: out} }

func table(other api.Value, rows ...api.Row) api.Table { return api.Table{Rows: rows, Else: other} }

func model(tables ...api.Table) api.Model { return api.Model{Tables: tables} }

// sameModel takes nil and the empty list for the same.
func sameModel(a, b api.Model) bool {
	return slices.EqualFunc(a.Tables, b.Tables, sameTable)
}

func sameTable(a, b api.Table) bool {
	return a.Else == b.Else && slices.EqualFunc(a.Rows, b.Rows, func(r, s api.Row) bool { return r.Out == s.Out && slices.Equal(r.Args, s.Args) })
}

func cloneModel(m api.Model) api.Model {
	var out api.Model
	for _, t := range m.Tables {
		u := api.Table{Else: t.Else}
		for _, r := range t.Rows {
			u.Rows = append(u.Rows, api.Row{Args: slices.Clone(r.Args), Out: r.Out})
		}
		out.Tables = append(out.Tables, u)
	}
	return out
}

func cloneBank(b api.Bank) api.Bank {
	out := api.Bank{Sorts: slices.Clone(b.Sorts), Funs: slices.Clone(b.Funs), Terms: slices.Clone(b.Terms)}
	for i := range out.Funs {
		out.Funs[i].Args = slices.Clone(out.Funs[i].Args)
	}
	for i := range out.Terms {
		out.Terms[i].Args = slices.Clone(out.Terms[i].Args)
	}
	return out
}

// rational is what the library makes of a canonical text.
func rational(text string) *big.Rat {
	q, ok := new(big.Rat).SetString(text)
	if !ok {
		panic("no rational: " + text)
	}
	return q
}

// maker makes banks for tests, in which nothing is refused.
type maker struct {
	t *testing.T
	*term.Bank
}

func newMaker(t *testing.T, sorts ...string) maker {
	m := maker{t, term.New()}
	for _, s := range sorts {
		m.Sort(s)
	}
	return m
}

func (m maker) must(n int, e api.Errno) int {
	m.t.Helper()
	if e != api.OK {
		m.t.Fatalf("the test's bank is refused: %d", e)
	}
	return n
}

func (m maker) fun(name string, out int, args ...int) int {
	m.t.Helper()
	return m.must(m.Fun(name, args, out))
}

func (m maker) num(text string) int {
	m.t.Helper()
	return m.must(m.Num(text))
}

func (m maker) app(fun int, args ...int) int {
	m.t.Helper()
	return m.must(m.App(fun, args))
}

func (m maker) op(op int, args ...int) int {
	m.t.Helper()
	return m.must(m.Op(op, args))
}

// eval is Eval where it must not fail.
func eval(t *testing.T, b api.Bank, m api.Model, at int) api.Value {
	t.Helper()
	v, e := world.Eval(b, m, at)
	if e != api.OK {
		t.Fatalf("W4: Eval of the term %d of %+v in %+v: %d", at, b, m, e)
	}
	return v
}

func tidy(t *testing.T, b api.Bank, m api.Model) api.Model {
	t.Helper()
	n, e := world.Tidy(b, m)
	if e != api.OK {
		t.Fatalf("W3: Tidy of %+v: %d", m, e)
	}
	return n
}

func shown(t *testing.T, b api.Bank, m api.Model) string {
	t.Helper()
	s, e := world.Show(b, m)
	if e != api.OK {
		t.Fatalf("W7: Show of %+v: %d", m, e)
	}
	return s
}

func read(t *testing.T, b api.Bank, text string) api.Model {
	t.Helper()
	m, e, place := world.Read(b, text)
	if e != api.OK || place != 0 {
		t.Fatalf("W8: Read(%q): %d at %d", text, e, place)
	}
	return m
}
