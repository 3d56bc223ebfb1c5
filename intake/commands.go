package intake

import (
	"math"
	"slices"
	"strconv"

	"arbiter/api"
	"arbiter/names"
	"arbiter/sexp"
)

const many = math.MaxInt

// command is what the list of a command is, by its word: how many things stand in it, and what reads them. The command comes with its kind and its place; a definition has the kind 0 and leaves none.
type command struct {
	word        string
	kind        int
	least, most int
	read        func(r *Reader, c api.Cmd, things []int) api.Cmd
}

func commands() []command {
	return []command{
		{"set-logic", api.CmdSetLogic, 2, 2, (*Reader).setLogic},
		{"set-option", api.CmdSetOption, 3, 3, (*Reader).attribute},
		{"set-info", api.CmdSetInfo, 2, 3, (*Reader).attribute},
		{"get-info", api.CmdGetInfo, 2, 2, (*Reader).attribute},
		{"get-option", api.CmdGetOption, 2, 2, (*Reader).attribute},
		{"declare-sort", api.CmdSort, 3, 3, (*Reader).declareSort},
		{"declare-fun", api.CmdFun, 4, 4, (*Reader).declareFun},
		{"declare-const", api.CmdFun, 3, 3, (*Reader).declareConst},
		{"define-sort", 0, 4, 4, (*Reader).defineSort},
		{"define-fun", 0, 5, 5, (*Reader).defineFun},
		{"define-const", 0, 4, 4, (*Reader).defineConst},
		{"assert", api.CmdAssert, 2, 2, (*Reader).assert},
		{"check-sat", api.CmdCheck, 1, 1, (*Reader).plain},
		{"check-sat-assuming", api.CmdAssuming, 2, 2, (*Reader).assuming},
		{"get-model", api.CmdModel, 1, 1, (*Reader).plain},
		{"get-value", api.CmdValue, 2, 2, (*Reader).values},
		{"get-unsat-core", api.CmdCore, 1, 1, (*Reader).plain},
		{"get-unsat-assumptions", api.CmdFailed, 1, 1, (*Reader).plain},
		{"get-proof", api.CmdProof, 1, 1, (*Reader).plain},
		{"get-assertions", api.CmdAssertions, 1, 1, (*Reader).plain},
		{"push", api.CmdPush, 2, 2, (*Reader).pushLevels},
		{"pop", api.CmdPop, 2, 2, (*Reader).popLevels},
		{"reset", api.CmdReset, 1, 1, (*Reader).forgetAll},
		{"reset-assertions", api.CmdResetAssert, 1, 1, (*Reader).forgetAll},
		{"echo", api.CmdEcho, 2, 2, (*Reader).echo},
		{"exit", api.CmdExit, 1, 1, (*Reader).plain},
		{"get-assignment", 0, 1, many, (*Reader).refuse},
		{"declare-datatype", 0, 1, many, (*Reader).refuse},
		{"declare-datatypes", 0, 1, many, (*Reader).refuse},
		{"define-fun-rec", 0, 1, many, (*Reader).refuse},
		{"define-funs-rec", 0, 1, many, (*Reader).refuse},
	}
}

// Word tells the word with which the list of a command of that kind begins; of a declared function that of one with arguments.
func Word(kind int) string {
	list := commands()
	return list[slices.IndexFunc(list, func(c command) bool { return c.kind == kind })].word
}

// command reads the command that is the expression there.
func (r *Reader) command(at int) api.Cmd {
	list := r.nodes[at]
	if list.Kind != api.KindOpen || list.Size == 1 {
		fail(api.ErrSyntax, list.At)
	}
	head := r.nodes[at+1]
	if head.Kind == api.KindSymbol {
		fail(api.ErrCommand, list.At)
	}
	found, ok := r.table[head.Text]
	if head.Kind != api.KindWord || !ok {
		fail(api.ErrSyntax, head.At)
	}
	things := r.things(at)
	if len(things) < found.least || len(things) > found.most {
		fail(api.ErrSyntax, list.At)
	}
	c := found.read(r, api.Cmd{Kind: found.kind, At: list.At}, things)
	r.known.Pass(c.Kind)
	return c
}

// things tells where the expressions in a list stand; of an atom none.
func (r *Reader) things(at int) []int {
	var list []int
	for thing := at + 1; thing < at+r.nodes[at].Size; thing += r.nodes[thing].Size {
		list = append(list, thing)
	}
	return list
}

// want tells a thing that is of that kind.
func (r *Reader) want(at, kind int) api.Node {
	n := r.nodes[at]
	if n.Kind != kind {
		fail(api.ErrSyntax, n.At)
	}
	return n
}

func (r *Reader) plain(c api.Cmd, things []int) api.Cmd {
	return c
}

func (r *Reader) refuse(c api.Cmd, things []int) api.Cmd {
	fail(api.ErrCommand, c.At)
	return c
}

func (r *Reader) setLogic(c api.Cmd, things []int) api.Cmd {
	name := r.want(things[1], api.KindSymbol)
	if !names.IsLogic(name.Text) {
		fail(api.ErrCommand, name.At)
	}
	if r.known.Begun {
		fail(api.ErrMode, c.At)
	}
	c.Name = name.Text
	return c
}

func (r *Reader) attribute(c api.Cmd, things []int) api.Cmd {
	c.Name = r.want(things[1], api.KindKeyword).Text
	if len(things) > 2 {
		c.Text = r.attributeValue(things[2])
	}
	return c
}

func (r *Reader) attributeValue(at int) string {
	n := r.nodes[at]
	if !IsValue(n) {
		fail(api.ErrSyntax, n.At)
	}
	text, _ := sexp.Show(r.nodes[at : at+n.Size])
	return text[:len(text)-1]
}

// IsValue tells whether an expression may be the value of an option or an info.
func IsValue(n api.Node) bool {
	return n.Kind != api.KindKeyword && n.Kind != api.KindWord
}

// newName tells a name that may be given there.
func (r *Reader) newName(at int, reserved, known func(name string) bool) string {
	name := r.want(at, api.KindSymbol)
	if reserved(name.Text) {
		fail(api.ErrReserved, name.At)
	}
	if known(name.Text) {
		fail(api.ErrAgain, name.At)
	}
	return name.Text
}

func (r *Reader) newSort(at int) string {
	return r.newName(at, names.IsReservedSort, r.known.Sorts.Knows)
}

func (r *Reader) newFun(at int) string {
	return r.newName(at, names.IsReserved, r.known.Funs.Knows)
}

func (r *Reader) newLabel(at int) string {
	return r.newName(at, names.IsReservedLabel, r.known.Funs.Knows)
}

// sortAt reads a sort.
func (r *Reader) sortAt(at int) int {
	n := r.nodes[at]
	if n.Kind == api.KindOpen {
		fail(api.ErrCommand, n.At)
	}
	sort, ok := r.known.Sort(r.want(at, api.KindSymbol).Text)
	if !ok {
		fail(api.ErrUnknown, n.At)
	}
	return sort
}

func (r *Reader) declareSort(c api.Cmd, things []int) api.Cmd {
	name := r.newSort(things[1])
	if count := r.want(things[2], api.KindNumeral); count.Text != "0" {
		fail(api.ErrCommand, count.At)
	}
	c.N = r.bank.Sort(name)
	r.sorts = append(r.sorts, name)
	r.known.Sorts.Put(name, c.N)
	return c
}

func (r *Reader) defineSort(c api.Cmd, things []int) api.Cmd {
	name := r.newSort(things[1])
	if params := r.want(things[2], api.KindOpen); params.Size > 1 {
		fail(api.ErrCommand, params.At)
	}
	r.known.Sorts.Put(name, r.sortAt(things[3]))
	return c
}

func (r *Reader) declareFun(c api.Cmd, things []int) api.Cmd {
	name := r.newFun(things[1])
	r.want(things[2], api.KindOpen)
	var args []int
	for _, at := range r.things(things[2]) {
		args = append(args, r.sortAt(at))
	}
	return r.declare(c, name, args, r.sortAt(things[3]))
}

func (r *Reader) declareConst(c api.Cmd, things []int) api.Cmd {
	name := r.newFun(things[1])
	return r.declare(c, name, nil, r.sortAt(things[2]))
}

func (r *Reader) declare(c api.Cmd, name string, args []int, out int) api.Cmd {
	fun, _ := r.bank.Fun(name, args, out)
	c.N = len(r.funs)
	r.numbers[fun] = c.N
	r.funs = append(r.funs, api.Fun{Name: name, Args: args, Out: out})
	r.known.Funs.Put(name, r.applied(fun))
	return c
}

// param is a parameter of a definition.
type param struct {
	name string
	sort int
}

func (r *Reader) params(at int) []param {
	r.want(at, api.KindOpen)
	var list []param
	seen := map[string]int{}
	for i, pair := range r.things(at) {
		two := r.pair(pair, seen)
		seen[two.name] = i
		list = append(list, param{two.name, r.sortAt(two.other)})
	}
	return list
}

// named is a list of two, a name and something else.
type named struct {
	name  string
	other int
}

// pair tells a list that binds a name, which those seen to the left do not have.
func (r *Reader) pair(at int, seen map[string]int) named {
	things := r.things(at)
	if len(things) != 2 {
		fail(api.ErrSyntax, r.nodes[at].At)
	}
	name := r.newName(things[0], names.IsReserved, func(name string) bool {
		_, ok := seen[name]
		return ok
	})
	return named{name, things[1]}
}

func (r *Reader) defineFun(c api.Cmd, things []int) api.Cmd {
	name := r.newFun(things[1])
	params := r.params(things[2])
	return r.define(c, name, params, r.sortAt(things[3]), things[4])
}

func (r *Reader) defineConst(c api.Cmd, things []int) api.Cmd {
	name := r.newFun(things[1])
	return r.define(c, name, nil, r.sortAt(things[2]), things[3])
}

func (r *Reader) define(c api.Cmd, name string, params []param, out, body int) api.Cmd {
	var terms []int
	for _, p := range params {
		fun, _ := r.bank.Fun(p.name, nil, p.sort)
		t, err := r.bank.App(fun, nil)
		terms = append(terms, must(t, err, c.At))
	}
	for i, p := range params {
		r.bound.Put(p.name, fixed(terms[i]))
	}
	t := r.termOf(body, out)
	r.bound.Back(0)
	r.known.Funs.Put(name, r.defined(t, terms))
	return c
}

func (r *Reader) assert(c api.Cmd, things []int) api.Cmd {
	label := r.labelled(things[1])
	if label == nil {
		c.Terms = []int{r.termOf(things[1], api.SortBool)}
		return c
	}
	t := r.termOf(label[1], api.SortBool)
	c.Terms = []int{t}
	c.Name = r.newLabel(label[3])
	r.known.Funs.Put(c.Name, fixed(t))
	return c
}

// labelled tells the four things of an assertion with a label; nil: it has none.
func (r *Reader) labelled(at int) []int {
	things := r.things(at)
	if len(things) != 4 {
		return nil
	}
	mark, key := r.nodes[things[0]], r.nodes[things[2]]
	if mark.Kind != api.KindWord || mark.Text != "!" || key.Kind != api.KindKeyword || key.Text != "named" {
		return nil
	}
	return things
}

func (r *Reader) assuming(c api.Cmd, things []int) api.Cmd {
	r.want(things[1], api.KindOpen)
	for _, at := range r.things(things[1]) {
		c.Terms = append(c.Terms, r.termOf(at, api.SortBool))
	}
	return c
}

func (r *Reader) values(c api.Cmd, things []int) api.Cmd {
	if list := r.want(things[1], api.KindOpen); list.Size == 1 {
		fail(api.ErrSyntax, list.At)
	}
	for _, at := range r.things(things[1]) {
		c.Terms = append(c.Terms, r.term(at))
	}
	return c
}

func (r *Reader) pushLevels(c api.Cmd, things []int) api.Cmd {
	c.N = r.count(things[1])
	if !r.known.Push(c.N) {
		fail(api.ErrLimit, c.At)
	}
	return c
}

func (r *Reader) popLevels(c api.Cmd, things []int) api.Cmd {
	c.N = r.count(things[1])
	if _, ok := r.known.Pop(c.N); !ok {
		fail(api.ErrMode, c.At)
	}
	return c
}

// count reads a number of levels. One that is too long for an int is above every number of levels all the same.
func (r *Reader) count(at int) int {
	n, err := strconv.Atoi(r.want(at, api.KindNumeral).Text)
	if err != nil {
		return math.MaxInt
	}
	return n
}

func (r *Reader) forgetAll(c api.Cmd, things []int) api.Cmd {
	r.known.Forget()
	return c
}

func (r *Reader) echo(c api.Cmd, things []int) api.Cmd {
	c.Name = r.want(things[1], api.KindString).Text
	return c
}
