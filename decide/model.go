package decide

import (
	"strconv"

	"arbiter/api"
	"arbiter/worth"
)

// speaksOf tells whether the nodes of a goal are of functions and sorts that the bank has, as it has them.
func speaksOf(g api.Goal, b api.Bank) bool {
	for _, n := range g.Nodes {
		if n.Sort >= api.SortFirst+len(b.Sorts) {
			return false
		}
		if n.Kind == api.NodeApp && (n.Fun >= len(b.Funs) || !isOf(n, b.Funs[n.Fun], g.Nodes)) {
			return false
		}
	}
	return true
}

// isOf tells whether a node has the sorts that a function says.
func isOf(n api.GNode, f api.Fun, nodes []api.GNode) bool {
	if n.Sort != f.Out || len(n.Args) != len(f.Args) {
		return false
	}
	for i, arg := range n.Args {
		if nodes[arg].Sort != f.Args[i] {
			return false
		}
	}
	return true
}

// formsAreMet tells whether values are of the nodes' sorts, and each node of a linear form is worth what that is.
func formsAreMet(nodes []api.GNode, values []api.Value) bool {
	point, ok := worth.PointOf(nodes, values)
	if !ok {
		return false
	}
	for i, n := range nodes {
		if n.Kind == api.NodeLin && !point[i].Same(worth.Number{Rat: point.Form(n.Lin)}) {
			return false
		}
	}
	return true
}

// call is a function at arguments, by the numbers of their values.
type call struct {
	fun  int
	args string
}

// tablesOf tells for each function what it is worth by the nodes, with false, 0 or the element 0 for all else; and whether it is worth one thing alone at the same arguments.
func tablesOf(funs []api.Fun, nodes []api.GNode, values []api.Value) ([]api.Table, bool) {
	tables := make([]api.Table, len(funs))
	for i, f := range funs {
		tables[i].Else = nought(f.Out)
	}
	numbers := numbersOf(values)
	known := map[call]int{} // the number of what it is worth
	for i, n := range nodes {
		if n.Kind != api.NodeApp {
			continue
		}
		c := callOf(n, numbers)
		worth, ok := known[c]
		if ok && worth != numbers[i] {
			return nil, false
		}
		if !ok {
			known[c] = numbers[i]
			table := &tables[n.Fun]
			table.Rows = append(table.Rows, rowOf(n.Args, values, values[i]))
		}
	}
	return tables, true
}

func nought(sort int) api.Value {
	v := api.Value{Sort: sort}
	if sort == api.SortReal {
		v.R = "0"
	}
	return v
}

// numbersOf numbers values, the same ones with the same number.
func numbersOf(values []api.Value) []int {
	first := map[api.Value]int{}
	numbers := make([]int, len(values))
	for i, v := range values {
		if _, ok := first[v]; !ok {
			first[v] = i
		}
		numbers[i] = first[v]
	}
	return numbers
}

func callOf(n api.GNode, numbers []int) call {
	var text []byte
	for _, arg := range n.Args {
		text = strconv.AppendInt(text, int64(numbers[arg]), 10)
		text = append(text, ' ')
	}
	return call{n.Fun, string(text)}
}

func rowOf(args []int, values []api.Value, out api.Value) api.Row {
	row := api.Row{Out: out}
	for _, arg := range args {
		row.Args = append(row.Args, values[arg])
	}
	return row
}
