package script_test

import (
	"maps"
	"slices"
	"strings"

	"arbiter/api"
	"arbiter/num"
	"arbiter/sexp"
	"arbiter/term"
)

// tree is an expression that holds what stands in it.
type tree struct {
	api.Node
	things []tree
	nodes  []api.Node
}

func trees(nodes []api.Node) []tree {
	var list []tree
	for i := 0; i < len(nodes); i += nodes[i].Size {
		list = append(list, tree{nodes[i], trees(nodes[i+1 : i+nodes[i].Size]), nodes[i : i+nodes[i].Size]})
	}
	return list
}

func (e tree) is(kind int, text string) bool { return e.Kind == kind && e.Text == text }
func (e tree) list() bool                    { return e.Kind == api.KindOpen }
func (e tree) symbol() bool                  { return e.Kind == api.KindSymbol }

// fault is the first violation.
type fault struct {
	err api.Errno
	at  int
}

func at(err api.Errno, e tree) *fault { return &fault{err, e.At} }

func wrap(err api.Errno, e tree) *fault {
	if err == api.OK {
		return nil
	}
	return at(err, e)
}

// known is what a name of a function, a definition or a label stands for.
type known struct {
	kind   string // "declared", "defined", "label"
	fun    int
	term   int
	params []int
}

// plain reads a script by the chapter's words, by calls of itself; what is known at a level is copied when another is opened.
type plain struct {
	bank     *term.Bank
	sorts    map[string]int
	funs     map[string]known
	outer    []plain // at each level that was opened: what was known then
	begun    bool
	declared []int
	cmds     []api.Cmd
}

var opNames = strings.Fields("true false . . not => and or xor = distinct ite + - * / <= < >= >")

func opOf(name string) int {
	if name == "." {
		return 0
	}
	return slices.Index(opNames, name) + 1
}

func reservedName(name string) bool {
	return opOf(name) > 0 || name != "" && (name[0] == '@' || name[0] == '.')
}

func plainParse(text string) (api.Script, api.Errno, int) {
	p := &plain{bank: term.New(), sorts: map[string]int{}, funs: map[string]known{}}
	nodes, err, place := sexp.Read(text)
	for _, e := range trees(nodes) {
		if f := p.command(e); f != nil {
			return p.script(), f.err, f.at
		}
		if e.things[0].Text == "exit" {
			return p.script(), 0, 0
		}
	}
	return p.script(), err, place
}

func (p *plain) script() api.Script {
	var all []int
	for _, c := range p.cmds {
		all = append(all, c.Terms...)
	}
	b, anew, err := term.Compact(p.bank.Export(), all)
	if err != api.OK {
		panic("the work bank is none")
	}
	s := api.Script{Bank: api.Bank{Sorts: b.Sorts, Terms: b.Terms}}
	for _, f := range p.declared {
		s.Bank.Funs = append(s.Bank.Funs, b.Funs[f])
	}
	for i := range b.Terms {
		if b.Terms[i].Op == api.OpApp {
			b.Terms[i].Fun = slices.Index(p.declared, b.Terms[i].Fun)
		}
	}
	for _, c := range p.cmds {
		c.Terms, anew = slices.Clone(anew[:len(c.Terms)]), anew[len(c.Terms):]
		s.Cmds = append(s.Cmds, c)
	}
	return s
}

func constant(e tree) (string, bool) {
	literal := func(e tree) (string, bool) {
		text, err := num.Read(e.Text)
		return text, err == api.OK && (e.Kind == api.KindNumeral || e.Kind == api.KindDecimal)
	}
	if !e.list() {
		return literal(e)
	}
	if len(e.things) == 3 && e.things[0].is(3, "/") {
		n, ok := literal(e.things[1])
		m, ok2 := literal(e.things[2])
		if ok && ok2 && m != "0" {
			q, _ := num.Quo(n, m)
			return q, true
		}
	}
	if len(e.things) == 2 && e.things[0].is(3, "-") {
		n, ok := constant(e.things[1])
		if ok && (!e.things[1].list() || e.things[1].things[0].is(3, "/")) {
			q, _ := num.Sub("0", n)
			return q, true
		}
	}
	return "", false
}

func (p *plain) term(e tree, bound map[string]int) (int, *fault) {
	if c, ok := constant(e); ok {
		t, err := p.bank.Num(c)
		return t, wrap(err, e)
	}
	switch e.Kind {
	case api.KindSymbol:
		return p.symbol(e, bound)
	case api.KindHex, api.KindBinary, api.KindString:
		return 0, at(api.ErrSort, e)
	case api.KindKeyword, api.KindWord:
		return 0, at(api.ErrSyntax, e)
	}
	if len(e.things) == 0 {
		return 0, at(api.ErrSyntax, e)
	}
	head := e.things[0]
	switch {
	case head.is(4, "let"):
		return p.let(e, bound)
	case head.Kind == 4 && slices.Contains([]string{"!", "_", "as", "forall", "exists", "match"}, head.Text):
		return 0, at(api.ErrCommand, e)
	case !head.symbol():
		return 0, at(api.ErrSyntax, head)
	case len(e.things) == 1:
		return 0, at(api.ErrSyntax, e)
	}
	return p.call(e, bound)
}

func (p *plain) symbol(e tree, bound map[string]int) (int, *fault) {
	if t, ok := bound[e.Text]; ok {
		return t, nil
	}
	if op := opOf(e.Text); op == api.OpTrue || op == api.OpFalse {
		t, err := p.bank.Op(op, nil)
		return t, wrap(err, e)
	} else if op != 0 {
		return 0, at(api.ErrSort, e)
	}
	k, ok := p.funs[e.Text]
	switch {
	case !ok:
		return 0, at(api.ErrUnknown, e)
	case k.kind == "declared":
		t, err := p.bank.App(k.fun, nil)
		return t, wrap(err, e)
	case len(k.params) > 0:
		return 0, at(api.ErrSort, e)
	}
	return k.term, nil
}

func (p *plain) call(e tree, bound map[string]int) (int, *fault) {
	head := e.things[0]
	_, isBound := bound[head.Text]
	k, isKnown := p.funs[head.Text]
	op := opOf(head.Text)
	if !isBound && op == 0 && !isKnown {
		return 0, at(api.ErrUnknown, head)
	}
	var args []int
	for _, a := range e.things[1:] {
		t, f := p.term(a, bound)
		if f != nil {
			return 0, f
		}
		args = append(args, t)
	}
	var t int
	var err api.Errno
	switch {
	case isBound, op == api.OpTrue, op == api.OpFalse, op == 0 && k.kind == "label":
		err = api.ErrSort
	case op != 0:
		t, err = p.bank.Op(op, args)
	case k.kind == "declared":
		t, err = p.bank.App(k.fun, args)
	default:
		if len(args) != len(k.params) {
			return 0, at(api.ErrSort, e)
		}
		for i := range args {
			a, _ := p.bank.View(args[i])
			b, _ := p.bank.View(k.params[i])
			if a.Sort != b.Sort {
				return 0, at(api.ErrSort, e)
			}
		}
		t, err = p.bank.Subst(k.term, k.params, args)
	}
	return t, wrap(err, e)
}

func (p *plain) let(e tree, bound map[string]int) (int, *fault) {
	if len(e.things) != 3 {
		return 0, at(api.ErrSyntax, e)
	}
	if !e.things[1].list() || len(e.things[1].things) == 0 {
		return 0, at(api.ErrSyntax, e.things[1])
	}
	inner := maps.Clone(bound)
	var seen []string
	for _, b := range e.things[1].things {
		if !b.list() || len(b.things) != 2 {
			return 0, at(api.ErrSyntax, b)
		}
		name := b.things[0]
		switch {
		case !name.symbol():
			return 0, at(api.ErrSyntax, name)
		case reservedName(name.Text):
			return 0, at(api.ErrReserved, name)
		case slices.Contains(seen, name.Text):
			return 0, at(api.ErrAgain, name)
		}
		seen = append(seen, name.Text)
		t, f := p.term(b.things[1], bound)
		if f != nil {
			return 0, f
		}
		inner[name.Text] = t
	}
	return p.term(e.things[2], inner)
}

func (p *plain) sort(e tree) (int, *fault) {
	s, ok := p.sorts[e.Text]
	switch {
	case e.list():
		return 0, at(api.ErrCommand, e)
	case !e.symbol():
		return 0, at(api.ErrSyntax, e)
	case e.Text == "Bool":
		return 0, nil
	case e.Text == "Real":
		return 1, nil
	case !ok:
		return 0, at(api.ErrUnknown, e)
	}
	return s, nil
}

// sorted reads a term that must be of that sort.
func (p *plain) sorted(e tree, sort int, bound map[string]int) (int, *fault) {
	t, f := p.term(e, bound)
	if f != nil {
		return 0, f
	}
	if v, _ := p.bank.View(t); v.Sort != sort {
		return 0, at(api.ErrSort, e)
	}
	return t, nil
}

// shapes is how many things each command has, from the least to the most.
var shapes = map[string][2]int{"set-logic": {2, 2}, "set-option": {3, 3}, "set-info": {2, 3}, "get-info": {2, 2}, "get-option": {2, 2}, "declare-sort": {3, 3}, "declare-fun": {4, 4}, "declare-const": {3, 3}, "define-fun": {5, 5}, "define-const": {4, 4}, "define-sort": {4, 4}, "assert": {2, 2}, "check-sat": {1, 1}, "check-sat-assuming": {2, 2}, "get-model": {1, 1}, "get-value": {2, 2}, "get-unsat-core": {1, 1}, "get-unsat-assumptions": {1, 1}, "get-proof": {1, 1}, "get-assertions": {1, 1}, "push": {2, 2}, "pop": {2, 2}, "reset": {1, 1}, "reset-assertions": {1, 1}, "echo": {2, 2}, "exit": {1, 1}}

func (p *plain) command(e tree) *fault {
	if !e.list() || len(e.things) == 0 {
		return at(api.ErrSyntax, e)
	}
	head := e.things[0]
	shape, ok := shapes[head.Text]
	switch {
	case head.symbol():
		return at(api.ErrCommand, e)
	case head.Kind != api.KindWord:
		return at(api.ErrSyntax, head)
	case slices.Contains([]string{"get-assignment", "declare-datatype", "declare-datatypes", "define-fun-rec", "define-funs-rec"}, head.Text):
		return at(api.ErrCommand, e)
	case !ok:
		return at(api.ErrSyntax, head)
	case len(e.things) < shape[0] || len(e.things) > shape[1]:
		return at(api.ErrSyntax, e)
	}
	c := api.Cmd{At: e.At}
	if f := p.things(e, head.Text, &c); f != nil {
		return f
	}
	switch head.Text {
	case "reset":
		p.begun = false
	case "set-option", "set-info", "get-info", "get-option", "echo":
	default:
		p.begun = true
	}
	if c.Kind != 0 {
		p.cmds = append(p.cmds, c)
	}
	return nil
}

func (p *plain) things(e tree, word string, c *api.Cmd) *fault {
	switch word {
	case "set-logic", "set-option", "set-info", "get-info", "get-option", "echo":
		return p.texts(e, word, c)
	case "declare-sort", "define-sort":
		return p.sortCommand(e, word, c)
	case "declare-fun", "declare-const":
		return p.funCommand(e, word, c)
	case "define-fun", "define-const":
		return p.define(e, word)
	case "assert", "check-sat-assuming", "get-value":
		return p.termCommand(e, word, c)
	case "push", "pop":
		return p.levels(e, word, c)
	case "reset", "reset-assertions":
		p.sorts, p.funs, p.outer = map[string]int{}, map[string]known{}, nil
	}
	c.Kind = map[string]int{"check-sat": 9, "get-model": 11, "get-unsat-core": 13, "get-unsat-assumptions": 14, "get-proof": 15, "get-assertions": 16, "reset": 19, "reset-assertions": 20, "exit": 22}[word]
	return nil
}

func (p *plain) texts(e tree, word string, c *api.Cmd) *fault {
	first := e.things[1]
	c.Name = first.Text
	c.Kind = map[string]int{"set-logic": 1, "set-option": 2, "set-info": 3, "get-info": 4, "get-option": 5, "echo": 21}[word]
	switch {
	case word == "echo" && first.Kind != api.KindString, word == "set-logic" && !first.symbol():
		return at(api.ErrSyntax, first)
	case word == "echo":
		return nil
	case word == "set-logic" && !slices.Contains([]string{"QF_UFLRA", "QF_UF", "QF_LRA", "ALL"}, first.Text):
		return at(api.ErrCommand, first)
	case word == "set-logic" && p.begun:
		return at(api.ErrMode, e)
	case word == "set-logic":
		return nil
	case first.Kind != api.KindKeyword:
		return at(api.ErrSyntax, first)
	}
	if len(e.things) == 3 {
		value := e.things[2]
		if value.Kind == api.KindKeyword || value.Kind == api.KindWord {
			return at(api.ErrSyntax, value)
		}
		text, _ := sexp.Show(value.nodes)
		c.Text = strings.TrimSuffix(text, "\n")
	}
	return nil
}

func (p *plain) newName(e tree, reserved, isKnown bool) *fault {
	switch {
	case !e.symbol():
		return at(api.ErrSyntax, e)
	case reserved:
		return at(api.ErrReserved, e)
	case isKnown:
		return at(api.ErrAgain, e)
	}
	return nil
}

func (p *plain) newFun(e tree) *fault {
	_, isKnown := p.funs[e.Text]
	return p.newName(e, reservedName(e.Text), isKnown)
}

func (p *plain) sortCommand(e tree, word string, c *api.Cmd) *fault {
	name, second := e.things[1], e.things[2]
	_, isKnown := p.sorts[name.Text]
	dotted := name.Text != "" && (name.Text[0] == '@' || name.Text[0] == '.')
	if f := p.newName(name, dotted || name.Text == "Bool" || name.Text == "Real", isKnown); f != nil {
		return f
	}
	if word == "declare-sort" {
		if second.Kind != api.KindNumeral {
			return at(api.ErrSyntax, second)
		}
		if second.Text != "0" {
			return at(api.ErrCommand, second)
		}
		c.Kind, c.N = api.CmdSort, p.bank.Sort(name.Text)
		p.sorts[name.Text] = c.N
		return nil
	}
	if !second.list() {
		return at(api.ErrSyntax, second)
	}
	if len(second.things) > 0 {
		return at(api.ErrCommand, second)
	}
	s, f := p.sort(e.things[3])
	if f == nil {
		p.sorts[name.Text] = s
	}
	return f
}

func (p *plain) funCommand(e tree, word string, c *api.Cmd) *fault {
	if f := p.newFun(e.things[1]); f != nil {
		return f
	}
	var args []int
	if word == "declare-fun" {
		if !e.things[2].list() {
			return at(api.ErrSyntax, e.things[2])
		}
		for _, a := range e.things[2].things {
			s, f := p.sort(a)
			if f != nil {
				return f
			}
			args = append(args, s)
		}
	}
	out, f := p.sort(e.things[len(e.things)-1])
	if f != nil {
		return f
	}
	fun, _ := p.bank.Fun(e.things[1].Text, args, out)
	c.Kind, c.N = api.CmdFun, len(p.declared)
	p.declared = append(p.declared, fun)
	p.funs[e.things[1].Text] = known{kind: "declared", fun: fun}
	return nil
}

func (p *plain) define(e tree, word string) *fault {
	if f := p.newFun(e.things[1]); f != nil {
		return f
	}
	var names []string
	var sorts []int
	if word == "define-fun" {
		if !e.things[2].list() {
			return at(api.ErrSyntax, e.things[2])
		}
		for _, a := range e.things[2].things {
			if len(a.things) != 2 {
				return at(api.ErrSyntax, a)
			}
			if f := p.newName(a.things[0], reservedName(a.things[0].Text), slices.Contains(names, a.things[0].Text)); f != nil {
				return f
			}
			s, f := p.sort(a.things[1])
			if f != nil {
				return f
			}
			names, sorts = append(names, a.things[0].Text), append(sorts, s)
		}
	}
	out, f := p.sort(e.things[len(e.things)-2])
	if f != nil {
		return f
	}
	bound := map[string]int{}
	var params []int
	for i, name := range names {
		fun, _ := p.bank.Fun("any", nil, sorts[i])
		t, err := p.bank.App(fun, nil)
		if err != api.OK {
			return at(err, e)
		}
		bound[name] = t
		params = append(params, t)
	}
	t, f := p.sorted(e.things[len(e.things)-1], out, bound)
	if f == nil {
		p.funs[e.things[1].Text] = known{kind: "defined", term: t, params: params}
	}
	return f
}

func (p *plain) termCommand(e tree, word string, c *api.Cmd) *fault {
	thing := e.things[1]
	none := map[string]int{}
	if word == "assert" {
		c.Kind = api.CmdAssert
		l := thing.things
		labelled := len(l) == 4 && l[0].is(4, "!") && l[2].is(10, "named")
		if labelled {
			thing = l[1]
		}
		t, f := p.sorted(thing, 0, none)
		if f != nil {
			return f
		}
		c.Terms = []int{t}
		if labelled {
			_, isKnown := p.funs[l[3].Text]
			if f := p.newName(l[3], l[3].Text == "" || reservedName(l[3].Text), isKnown); f != nil {
				return f
			}
			c.Name = l[3].Text
			p.funs[c.Name] = known{kind: "label", term: t}
		}
		return nil
	}
	c.Kind = map[string]int{"check-sat-assuming": 10, "get-value": 12}[word]
	if !thing.list() || word == "get-value" && len(thing.things) == 0 {
		return at(api.ErrSyntax, thing)
	}
	for _, a := range thing.things {
		t, f := p.term(a, none)
		if word == "check-sat-assuming" {
			t, f = p.sorted(a, 0, none)
		}
		if f != nil {
			return f
		}
		c.Terms = append(c.Terms, t)
	}
	return nil
}

func (p *plain) levels(e tree, word string, c *api.Cmd) *fault {
	if e.things[1].Kind != api.KindNumeral {
		return at(api.ErrSyntax, e.things[1])
	}
	open := len(p.outer)
	over := len(e.things[1].Text) > 4
	n := 0
	for _, d := range e.things[1].Text {
		if !over {
			n = 10*n + int(d-'0')
		}
	}
	c.N = n
	if word == "push" {
		c.Kind = api.CmdPush
		if over || open+n > api.MaxLevels {
			return at(api.ErrLimit, e)
		}
		for range n {
			p.outer = append(p.outer, plain{sorts: maps.Clone(p.sorts), funs: maps.Clone(p.funs)})
		}
		return nil
	}
	c.Kind = api.CmdPop
	if over || n > open {
		return at(api.ErrMode, e)
	}
	for range n {
		last := p.outer[len(p.outer)-1]
		p.sorts, p.funs, p.outer = last.sorts, last.funs, p.outer[:len(p.outer)-1]
	}
	return nil
}
