package world

import (
	"slices"

	"arbiter/api"
	"arbiter/term"
)

// table is what a function is worth.
type table struct {
	rows []row
	rest value // where no row says otherwise
}

type row struct {
	args []value
	out  value
}

// tablesOf looks over a bank and a structure for it; what is none comes with its error, and with the function that it fails at.
func tablesOf(b api.Bank, m api.Model) ([]table, api.Errno, int) {
	if err := term.Check(b); err != api.OK {
		return nil, err, 0
	}
	var tables []table
	for i, f := range b.Funs {
		if i == len(m.Tables) {
			return nil, api.ErrModel, i
		}
		t, ok := tableOf(f, m.Tables[i])
		if !ok {
			return nil, api.ErrModel, i
		}
		tables = append(tables, t)
	}
	if len(m.Tables) > len(b.Funs) {
		return nil, api.ErrModel, len(b.Funs)
	}
	return tables, api.OK, 0
}

// tidyTables tells the tables of a structure in their canonical form.
func tidyTables(b api.Bank, m api.Model) ([]table, api.Errno) {
	tables, err, _ := tablesOf(b, m)
	for i := range tables {
		tables[i] = tables[i].tidy()
	}
	return tables, err
}

// tableOf tells the table that plain data is, and whether it is one of that function.
func tableOf(f api.Fun, t api.Table) (table, bool) {
	rest, ok := valueOf(t.Else, f.Out)
	if !ok {
		return table{}, false
	}
	made := table{rest: rest}
	for _, r := range t.Rows {
		next, ok := rowOf(f, r)
		if !ok {
			return table{}, false
		}
		made.rows = append(made.rows, next)
	}
	return made, true
}

func rowOf(f api.Fun, r api.Row) (row, bool) {
	if len(r.Args) != len(f.Args) {
		return row{}, false
	}
	args := make([]value, len(r.Args))
	for i, v := range r.Args {
		arg, ok := valueOf(v, f.Args[i])
		if !ok {
			return row{}, false
		}
		args[i] = arg
	}
	out, ok := valueOf(r.Out, f.Out)
	return row{args, out}, ok
}

// order tells how the rows of two lists of arguments stand to one another: -1, 0 or 1.
func order(a, b []value) int {
	return slices.CompareFunc(a, b, inOrder)
}

// tidy puts the rows in order, so that they can be looked up too, and leaves out those that say nothing.
func (t table) tidy() table {
	if len(t.rows) == 0 {
		return t
	}
	if len(t.rows[0].args) == 0 { // a constant is worth its first row
		return table{rest: t.rows[0].out}
	}
	// Of the same arguments the first row counts: it stays the first, and is the one that is kept.
	slices.SortStableFunc(t.rows, func(a, b row) int { return order(a.args, b.args) })
	t.rows = slices.CompactFunc(t.rows, func(a, b row) bool { return order(a.args, b.args) == 0 })
	t.rows = slices.DeleteFunc(t.rows, func(r row) bool { return r.out.same(t.rest) })
	return t
}

// at tells what the function of a tidy table is worth at arguments.
func (t table) at(args []value) value {
	i, found := slices.BinarySearchFunc(t.rows, args, func(r row, args []value) int { return order(r.args, args) })
	if !found {
		return t.rest
	}
	return t.rows[i].out
}

func (t table) plain() api.Table {
	out := api.Table{Else: plain(t.rest)}
	for _, r := range t.rows {
		out.Rows = append(out.Rows, api.Row{Args: plainAll(r.args), Out: plain(r.out)})
	}
	return out
}

func plainAll(values []value) []api.Value {
	var list []api.Value
	for _, v := range values {
		list = append(list, plain(v))
	}
	return list
}
