package world_test

import (
	"reflect"
	"slices"
	"strings"
	"testing"

	"arbiter/api"
	"arbiter/world"
)

// roomy is a structure all of whose lists have spare room, with something in it.
func roomy(m api.Model) api.Model {
	out := api.Model{Tables: make([]api.Table, len(m.Tables), len(m.Tables)+2)}
	for i, t := range m.Tables {
		u := api.Table{Else: t.Else, Rows: make([]api.Row, len(t.Rows), len(t.Rows)+2)}
		for j, r := range t.Rows {
			args := make([]api.Value, len(r.Args), len(r.Args)+2)
			copy(args, r.Args)
			u.Rows[j] = api.Row{Args: args, Out: r.Out}
			mark(args)
		}
		mark(u.Rows)
		out.Tables[i] = u
	}
	mark(out.Tables)
	return out
}

// mark writes into the spare room of a list.
func mark[T any](list []T) {
	spare := list[len(list):cap(list)]
	for i := range spare {
		switch x := any(&spare[i]).(type) {
		case *api.Value:
			x.N = -77
		case *api.Row:
			x.Out.N = -77
		case *api.Table:
			x.Else.N = -77
		}
	}
}

// whole tells all lists of a structure up to the ends of their spare room.
func whole(m api.Model) api.Model {
	out := api.Model{Tables: slices.Clone(m.Tables[:cap(m.Tables)])}
	for i, t := range out.Tables {
		out.Tables[i].Rows = slices.Clone(t.Rows[:cap(t.Rows)])
		for j, r := range out.Tables[i].Rows {
			out.Tables[i].Rows[j].Args = slices.Clone(r.Args[:cap(r.Args)])
		}
	}
	return out
}

// wreck writes over a structure, spare room included.
func wreck(m api.Model) {
	tables := m.Tables[:cap(m.Tables)]
	for i := range tables {
		rows := tables[i].Rows[:cap(tables[i].Rows)]
		for j := range rows {
			args := rows[j].Args[:cap(rows[j].Args)]
			for k := range args {
				args[k] = api.Value{Sort: -9, N: -9, R: "-9"}
			}
			rows[j] = api.Row{}
		}
		tables[i] = api.Table{}
	}
}

// What is handed in is not changed, nor is its spare room.
func TestWhatIsHandedInStays(t *testing.T) {
	look(t, 60, func(g *gen, b api.Bank, m api.Model) {
		m = roomy(m)
		heldModel, heldBank, text := whole(m), cloneBank(b), shown(t, b, m)
		terms := []int{g.pick(b, 0), g.pick(b, 0), -5}
		world.Check(b, m)
		world.Tidy(b, m)
		world.Eval(b, m, len(b.Terms)-1)
		world.Holds(b, m, terms[:2])
		world.Show(b, m)
		world.Read(b, text)
		if !reflect.DeepEqual(whole(m), heldModel) || !reflect.DeepEqual(cloneBank(b), heldBank) || terms[2] != -5 {
			t.Fatal("W1: what was handed in is changed")
		}
	})
}

// What is handed out may be written over: no list of it is another's, an argument's or a later answer's.
func TestWhatIsHandedOutIsNew(t *testing.T) {
	look(t, 60, func(g *gen, b api.Bank, m api.Model) {
		held := cloneModel(m)
		canonical := plainTidy(b, m)
		text := shown(t, b, m)
		for _, answer := range []func() api.Model{func() api.Model { return tidy(t, b, m) }, func() api.Model { return read(t, b, text) }} {
			n := answer()
			for i := range n.Tables {
				for j := range n.Tables[i].Rows {
					// To write into one list, and behind its end, must leave all others as they are.
					before := cloneModel(n)
					args := n.Tables[i].Rows[j].Args
					spare := args[len(args):cap(args)]
					for k := range spare {
						spare[k].N = -3
					}
					args[0].N = -3
					before.Tables[i].Rows[j].Args[0].N = -3
					if !sameModel(n, before) {
						t.Fatal("P0.4: two lists of an answer share memory")
					}
				}
			}
			wreck(n)
			if again := answer(); !sameModel(again, canonical) || !sameModel(m, held) {
				t.Fatal("P0.4: an answer shares memory with an argument or with a later answer")
			}
		}
	})
}

// P0.3: nil and an empty list are alike.
func TestEmptyLists(t *testing.T) {
	b := api.Bank{Sorts: []string{}, Funs: []api.Fun{{Name: "p", Args: []int{}}, {Name: "f", Args: []int{0}}}, Terms: []api.Term{{Op: api.OpApp, Args: []int{}}}}
	m := api.Model{Tables: []api.Table{{Rows: []api.Row{{Args: []api.Value{}, Out: truth(1)}}}, {Rows: []api.Row{}}}}
	if e, at := world.Check(b, m); e != api.OK || at != 0 {
		t.Errorf("P0.3: %d, %d", e, at)
	}
	if v := eval(t, b, m, 0); v != truth(1) {
		t.Errorf("P0.3: %v", v)
	}
	if n := tidy(t, b, m); !sameModel(n, model(table(truth(1)), table(truth(0)))) {
		t.Errorf("P0.3: %+v", n)
	}
	if e, at := world.Check(api.Bank{Funs: []api.Fun{}}, api.Model{Tables: []api.Table{}}); e != api.OK || at != 0 {
		t.Errorf("P0.3: of nothing: %d, %d", e, at)
	}
}

// P0.5: the same arguments have the same answer.
func TestAgain(t *testing.T) {
	look(t, 40, func(g *gen, b api.Bank, m api.Model) {
		text := shown(t, b, m)
		spoilt := strings.Replace(text, "true", "1", 1)
		first, e, at := world.Read(b, spoilt)
		for range 5 {
			if s := shown(t, b, m); s != text {
				t.Fatalf("P0.5: shown as %s, then as %s", text, s)
			}
			if n, f, place := world.Read(b, spoilt); f != e || place != at || !sameModel(n, first) {
				t.Fatalf("P0.5: %q is read as %+v, %d at %d, then as %+v, %d at %d", spoilt, first, e, at, n, f, place)
			}
		}
	})
}

// P0.8: the names and the numbers that this layer speaks.
func TestNamesOfApi(t *testing.T) {
	var _ struct {
		Sort int
		N    int
		R    string
	} = api.Value{}
	var _ struct {
		Args []api.Value
		Out  api.Value
	} = api.Row{}
	var _ struct {
		Rows []api.Row
		Else api.Value
	} = api.Table{}
	var _ struct{ Tables []api.Table } = api.Model{}
	if api.ErrModel != 50 || api.ErrName != 17 || api.ErrSyntax != 40 || api.ErrUnknown != 41 || api.ErrAgain != 42 || api.ErrSort != 31 || api.ErrIndex != 30 || api.ErrZero != 2 {
		t.Error("P0.8: a number of api is another")
	}
}
