package world

import (
	"strconv"
	"strings"

	"arbiter/api"
	"arbiter/sexp"
	"arbiter/worth"
)

// violation is what the reading gives up with, from however deep within.
type violation struct {
	err api.Errno
	at  int
}

// reader reads a structure for a bank.
type reader struct {
	bank   api.Bank
	nodes  []api.Node
	bare   map[string][]int // by name: the functions that have no table yet, in their order
	tables []api.Table
	left   int // how many functions have no table yet
}

func newReader(b api.Bank) *reader {
	r := &reader{bank: b, bare: map[string][]int{}, tables: make([]api.Table, len(b.Funs)), left: len(b.Funs)}
	for i, f := range b.Funs {
		r.bare[f.Name] = append(r.bare[f.Name], i)
	}
	return r
}

// fail gives up at a thing.
func (r *reader) fail(err api.Errno, at int) {
	panic(violation{err, r.nodes[at].At})
}

// model reads the structure that a text is.
func (r *reader) model(text string) api.Model {
	nodes, err, place := sexp.Read(text)
	if err != api.OK {
		panic(violation{err, place})
	}
	if len(nodes) == 0 {
		panic(violation{api.ErrSyntax, len(text)})
	}
	r.nodes = nodes
	if nodes[0].Kind != api.KindOpen {
		r.fail(api.ErrSyntax, 0)
	}
	if behind := nodes[0].Size; behind < len(nodes) {
		r.fail(api.ErrSyntax, behind)
	}
	for _, at := range r.things(0) {
		r.definition(at)
	}
	if r.left > 0 {
		panic(violation{api.ErrModel, nodes[0].End - 1})
	}
	return api.Model{Tables: r.tables}
}

// things tells where the expressions in a list stand; of an atom none.
func (r *reader) things(at int) []int {
	var list []int
	for thing := at + 1; thing < at+r.nodes[at].Size; thing += r.nodes[thing].Size {
		list = append(list, thing)
	}
	return list
}

func (r *reader) is(at, kind int, text string) bool {
	return r.nodes[at].Kind == kind && r.nodes[at].Text == text
}

// behind tells the things of a list behind its first one, and whether that is the one that is wanted, with as many behind it.
func (r *reader) behind(at, kind int, text string, count int) ([]int, bool) {
	if r.nodes[at].Size == 1 || !r.is(at+1, kind, text) {
		return nil, false
	}
	things := r.things(at)[1:]
	return things, len(things) == count
}

func (r *reader) areSymbols(things ...int) bool {
	for _, at := range things {
		if r.nodes[at].Kind != api.KindSymbol {
			return false
		}
	}
	return true
}

func (r *reader) definition(at int) {
	things, ok := r.behind(at, api.KindWord, "define-fun", 4)
	if !ok || !r.areSymbols(things[0], things[2]) || r.nodes[things[1]].Kind != api.KindOpen {
		r.fail(api.ErrSyntax, at)
	}
	fun := r.function(things[0])
	f := r.bank.Funs[fun]
	params := r.params(things[1], f)
	r.wantSort(things[2], f.Out)
	r.tables[fun] = r.body(things[3], f, params)
	r.left--
}

// function tells which function the name there is the next definition of.
func (r *reader) function(at int) int {
	name := r.nodes[at].Text
	bare, ok := r.bare[name]
	if !ok {
		r.fail(api.ErrUnknown, at)
	}
	if len(bare) == 0 {
		r.fail(api.ErrAgain, at)
	}
	r.bare[name] = bare[1:]
	return bare[0]
}

// params tells, by name, which argument of the function a parameter is.
func (r *reader) params(at int, f api.Fun) map[string]int {
	things := r.things(at)
	if len(things) != len(f.Args) {
		r.fail(api.ErrSort, at)
	}
	params := map[string]int{}
	for i, thing := range things {
		pair := r.things(thing)
		if len(pair) != 2 || !r.areSymbols(pair...) {
			r.fail(api.ErrSyntax, thing)
		}
		name := r.nodes[pair[0]].Text
		if _, ok := params[name]; ok {
			r.fail(api.ErrAgain, pair[0])
		}
		params[name] = i
		r.wantSort(pair[1], f.Args[i])
	}
	return params
}

func (r *reader) wantSort(at, sort int) {
	if r.nodes[at].Text != r.sortName(sort) {
		r.fail(api.ErrSort, at)
	}
}

func (r *reader) sortName(sort int) string {
	switch sort {
	case api.SortBool:
		return "Bool"
	case api.SortReal:
		return "Real"
	}
	return r.bank.Sorts[sort-api.SortFirst]
}

// body reads a table: a row, and what stands behind it, as deep as rows go.
func (r *reader) body(at int, f api.Fun, params map[string]int) api.Table {
	var t api.Table
	for {
		things, ok := r.behind(at, api.KindSymbol, "ite", 3)
		if !ok || len(f.Args) == 0 {
			t.Else = worth.Plain(r.value(at, f.Out))
			return t
		}
		args := r.condition(things[0], f, params)
		out := worth.Plain(r.value(things[1], f.Out))
		t.Rows = append(t.Rows, api.Row{Args: args, Out: out})
		at = things[2]
	}
}

// condition reads the arguments that a row is for.
func (r *reader) condition(at int, f api.Fun, params map[string]int) []api.Value {
	equations := []int{at}
	if len(f.Args) > 1 {
		things, ok := r.behind(at, api.KindSymbol, "and", len(f.Args))
		if !ok {
			r.fail(api.ErrSyntax, at)
		}
		equations = things
	}
	args := make([]api.Value, len(f.Args))
	given := make([]bool, len(f.Args))
	for _, equation := range equations {
		param, side := r.equation(equation, params)
		if given[param] {
			r.fail(api.ErrAgain, equation)
		}
		given[param] = true
		args[param] = worth.Plain(r.value(side, f.Args[param]))
	}
	return args
}

// equation tells the parameter that an equation is of, and where its value stands.
func (r *reader) equation(at int, params map[string]int) (param, side int) {
	sides, ok := r.behind(at, api.KindSymbol, "=", 2)
	if !ok {
		r.fail(api.ErrSyntax, at)
	}
	for i, thing := range sides {
		if param, ok := params[r.nodes[thing].Text]; ok && r.areSymbols(thing) {
			return param, sides[1-i]
		}
	}
	r.fail(api.ErrSyntax, at)
	return 0, 0
}

// value reads a value of that sort.
func (r *reader) value(at, sort int) worth.Value {
	v := r.anyValue(at, sort)
	if v.Sort() != sort {
		r.fail(api.ErrSort, at)
	}
	return v
}

func (r *reader) anyValue(at, wanted int) worth.Value {
	if r.is(at, api.KindSymbol, "true") || r.is(at, api.KindSymbol, "false") {
		return worth.Truth(r.nodes[at].Text == "true")
	}
	if e, ok := r.element(at, wanted); ok {
		return e
	}
	c := &constant{reader: r}
	return worth.Number{Rat: c.read(at)}
}

// nowhere is the sort of an element that is not of the wanted sort: which one it is of need not be known.
const nowhere = -1

// element tells the element that is written there, and whether one is.
func (r *reader) element(at, wanted int) (worth.Element, bool) {
	things, ok := r.behind(at, api.KindWord, "as", 2)
	if !ok || !r.areSymbols(things...) {
		return worth.Element{}, false
	}
	digits, marked := strings.CutPrefix(r.nodes[things[0]].Text, "@")
	n, err := strconv.Atoi(digits)
	if !marked || err != nil || n < 0 || strconv.Itoa(n) != digits {
		return worth.Element{}, false
	}
	if wanted < api.SortFirst || r.nodes[things[1]].Text != r.sortName(wanted) {
		return worth.Element{Of: nowhere, N: n}, true
	}
	return worth.Element{Of: wanted, N: n}, true
}
