package worth

import (
	"slices"

	"arbiter/api"
)

// Table is what a function is worth.
type Table struct {
	Rows []Row
	Rest Value // where no row says otherwise
}

// Row is what a function is worth at these arguments.
type Row struct {
	Args []Value
	Out  Value
}

// Tables tells the tables that a structure is for these functions, each tidy: no two rows have the same arguments, none says what is so without it, and they rise. If it is none, it tells no tables, false, and the function that it fails at; of too many tables, how many functions there are.
func Tables(funs []api.Fun, m api.Model) (tables []Table, fun int, ok bool) {
	for i, f := range funs {
		if i == len(m.Tables) {
			return nil, i, false
		}
		t, ok := tableOf(f, m.Tables[i])
		if !ok {
			return nil, i, false
		}
		tables = append(tables, t.tidy())
	}
	if len(m.Tables) > len(funs) {
		return nil, len(funs), false
	}
	return tables, 0, true
}

// tableOf tells the table that plain data is, and whether it is one of that function.
func tableOf(f api.Fun, t api.Table) (Table, bool) {
	rest, ok := Of(t.Else, f.Out)
	if !ok {
		return Table{}, false
	}
	made := Table{Rest: rest}
	for _, r := range t.Rows {
		next, ok := rowOf(f, r)
		if !ok {
			return Table{}, false
		}
		made.Rows = append(made.Rows, next)
	}
	return made, true
}

func rowOf(f api.Fun, r api.Row) (Row, bool) {
	if len(r.Args) != len(f.Args) {
		return Row{}, false
	}
	args := make([]Value, len(r.Args))
	for i, v := range r.Args {
		arg, ok := Of(v, f.Args[i])
		if !ok {
			return Row{}, false
		}
		args[i] = arg
	}
	out, ok := Of(r.Out, f.Out)
	return Row{args, out}, ok
}

// order tells how the rows of two lists of arguments stand to one another: -1, 0 or 1.
func order(a, b []Value) int {
	return slices.CompareFunc(a, b, inOrder)
}

// tidy puts the rows in order, so that they can be looked up too, and leaves out those that say nothing.
func (t Table) tidy() Table {
	if len(t.Rows) == 0 {
		return t
	}
	if len(t.Rows[0].Args) == 0 { // a constant is worth its first row
		return Table{Rest: t.Rows[0].Out}
	}
	// Of the same arguments the first row counts: it stays the first, and is the one that is kept.
	slices.SortStableFunc(t.Rows, func(a, b Row) int { return order(a.Args, b.Args) })
	t.Rows = slices.CompactFunc(t.Rows, func(a, b Row) bool { return order(a.Args, b.Args) == 0 })
	t.Rows = slices.DeleteFunc(t.Rows, func(r Row) bool { return r.Out.Same(t.Rest) })
	return t
}

// at tells what the function of a tidy table is worth at arguments.
func (t Table) at(args []Value) Value {
	i, found := slices.BinarySearchFunc(t.Rows, args, func(r Row, args []Value) int { return order(r.Args, args) })
	if !found {
		return t.Rest
	}
	return t.Rows[i].Out
}

// Plain turns a table back into plain data.
func (t Table) Plain() api.Table {
	out := api.Table{Else: Plain(t.Rest)}
	for _, r := range t.Rows {
		out.Rows = append(out.Rows, api.Row{Args: plainAll(r.Args), Out: Plain(r.Out)})
	}
	return out
}

func plainAll(values []Value) []api.Value {
	var list []api.Value
	for _, v := range values {
		list = append(list, Plain(v))
	}
	return list
}
