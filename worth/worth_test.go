package worth_test

import (
	"testing"

	"arbiter/api"
	"arbiter/term"
	"arbiter/worth"
)

// What is asked for is told, whether it is a part of something else or not, and whether it is asked for once or twice.
func TestTerms(t *testing.T) {
	b := term.New()
	f, _ := b.Fun("f", []int{api.SortReal}, api.SortReal)
	x, _ := b.Fun("x", nil, api.SortReal)
	at, _ := b.App(x, nil)
	sum, _ := b.Op(api.OpAdd, []int{at, at})
	top, _ := b.App(f, []int{sum})
	below, _ := b.Op(api.OpLt, []int{sum, top})
	number := func(text string) api.Value { return api.Value{Sort: api.SortReal, R: text} }
	rows := []api.Row{{Args: []api.Value{number("1")}, Out: number("9")}, {Args: []api.Value{number("1")}, Out: number("0")}}
	bank := b.Export()
	tables, _, ok := worth.Tables(bank.Funs, api.Model{Tables: []api.Table{{Rows: rows, Else: number("-1")}, {Else: number("1/2")}}})
	if !ok {
		t.Fatal("the test's structure is none")
	}
	values := worth.Terms(bank.Terms, tables, []int{below, sum, at, sum})
	for at, want := range map[int]api.Value{at: number("1/2"), sum: number("1"), below: {N: 1}} {
		if got := worth.Plain(values[at]); got != want {
			t.Errorf("the term %d is worth %v, want %v", at, got, want)
		}
	}
	if values[top] != nil {
		t.Error("what nobody asked for is kept")
	}
}

func TestTables(t *testing.T) {
	funs := []api.Fun{{Args: []int{api.SortBool}, Out: api.SortBool}, {Out: api.SortReal}}
	number := api.Table{Else: api.Value{Sort: api.SortReal, R: "1"}}
	for i, c := range []struct {
		tables []api.Table
		fun    int
		ok     bool
	}{
		{[]api.Table{{}, number}, 0, true},
		{[]api.Table{{}}, 1, false},
		{[]api.Table{number, number}, 0, false},
		{[]api.Table{{}, {}}, 1, false},
		{[]api.Table{{}, number, {}}, 2, false},
		{[]api.Table{{Rows: []api.Row{{}}}, number}, 0, false},
	} {
		tables, fun, ok := worth.Tables(funs, api.Model{Tables: c.tables})
		if fun != c.fun || ok != c.ok || ok != (len(tables) == 2) {
			t.Errorf("the structure %d: %d, %v", i, fun, ok)
		}
	}
}
