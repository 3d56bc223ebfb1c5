package world_test

import (
	"math/big"
	"slices"
	"strconv"
	"strings"

	"arbiter/api"
	"arbiter/num"
	"arbiter/scan"
	"arbiter/sexp"
)

// What stands here goes by the chapter's words and by nothing else: rows are looked for one by one, terms and texts are gone down by calls that call themselves, numbers are the library's.

func plainAt(t api.Table, args []api.Value) api.Value {
	for _, r := range t.Rows {
		if slices.Equal(r.Args, args) {
			return r.Out
		}
	}
	return t.Else
}

func plainTruth(b bool) api.Value {
	if b {
		return truth(1)
	}
	return truth(0)
}

func plainEval(b api.Bank, m api.Model, t int) api.Value {
	v := b.Terms[t]
	var args []api.Value
	for _, a := range v.Args {
		args = append(args, plainEval(b, m, a))
	}
	switch v.Op {
	case api.OpNum:
		return number(v.Num)
	case api.OpApp:
		return plainAt(m.Tables[v.Fun], args)
	case api.OpIte:
		if args[0].N == 1 {
			return args[1]
		}
		return args[2]
	case api.OpAdd, api.OpSub, api.OpMul, api.OpDiv:
		return number(plainReckon(v.Op, args).RatString())
	}
	return plainTruth(plainHolds(v.Op, args))
}

func plainReckon(op int, args []api.Value) *big.Rat {
	q := rational(args[0].R)
	if op == api.OpSub && len(args) == 1 {
		return q.Neg(q)
	}
	for _, a := range args[1:] {
		r := rational(a.R)
		switch op {
		case api.OpAdd:
			q.Add(q, r)
		case api.OpSub:
			q.Sub(q, r)
		case api.OpMul:
			q.Mul(q, r)
		case api.OpDiv:
			q.Quo(q, r)
		}
	}
	return q
}

func plainHolds(op int, args []api.Value) bool {
	ones := 0
	for _, a := range args {
		ones += a.N
	}
	last := len(args) - 1
	switch op {
	case api.OpTrue:
		return true
	case api.OpFalse:
		return false
	case api.OpNot:
		return ones == 0
	case api.OpImplies:
		for _, a := range args[:last] {
			if a.N == 0 {
				return true
			}
		}
		return args[last].N == 1
	case api.OpAnd:
		return ones == len(args)
	case api.OpOr:
		return ones > 0
	case api.OpXor:
		return ones%2 == 1
	case api.OpEq, api.OpDistinct:
		for i := range args {
			for j := range i {
				if (args[i] == args[j]) == (op == api.OpDistinct) {
					return false
				}
			}
		}
		return true
	}
	for i := range last {
		c := rational(args[i].R).Cmp(rational(args[i+1].R))
		ok := map[int]bool{api.OpLe: c <= 0, api.OpLt: c < 0, api.OpGe: c >= 0, api.OpGt: c > 0}[op]
		if !ok {
			return false
		}
	}
	return true
}

func plainIs(b api.Bank, v api.Value, sort int) bool {
	if v.Sort != sort {
		return false
	}
	switch {
	case sort == api.SortBool:
		return v.R == "" && (v.N == 0 || v.N == 1)
	case sort == api.SortReal:
		c, e := num.Canon(v.R)
		return v.N == 0 && e == api.OK && c == v.R
	}
	return v.R == "" && v.N >= 0 && sort < 2+len(b.Sorts)
}

func plainIsTable(b api.Bank, f api.Fun, t api.Table) bool {
	for _, r := range t.Rows {
		if len(r.Args) != len(f.Args) || !plainIs(b, r.Out, f.Out) {
			return false
		}
		for i, a := range r.Args {
			if !plainIs(b, a, f.Args[i]) {
				return false
			}
		}
	}
	return plainIs(b, t.Else, f.Out)
}

func plainCheck(b api.Bank, m api.Model) (api.Errno, int) {
	for i, f := range b.Funs {
		if i >= len(m.Tables) || !plainIsTable(b, f, m.Tables[i]) {
			return api.ErrModel, i
		}
	}
	if len(m.Tables) > len(b.Funs) {
		return api.ErrModel, len(b.Funs)
	}
	return api.OK, 0
}

// plainAhead tells whether a list of arguments stands ahead of another.
func plainAhead(a, b []api.Value) bool {
	for i := range a {
		if a[i] == b[i] {
			continue
		}
		if a[i].Sort == api.SortReal {
			return rational(a[i].R).Cmp(rational(b[i].R)) < 0
		}
		return a[i].N < b[i].N
	}
	return false
}

func plainTidy(b api.Bank, m api.Model) api.Model {
	var out api.Model
	for i, f := range b.Funs {
		t := m.Tables[i]
		if len(f.Args) == 0 {
			out.Tables = append(out.Tables, api.Table{Else: plainAt(t, nil)})
			continue
		}
		u := api.Table{Else: t.Else}
		for k, r := range t.Rows {
			ahead := slices.ContainsFunc(t.Rows[:k], func(s api.Row) bool { return slices.Equal(s.Args, r.Args) })
			if ahead || r.Out == t.Else {
				continue
			}
			at := 0
			for at < len(u.Rows) && plainAhead(u.Rows[at].Args, r.Args) {
				at++
			}
			u.Rows = slices.Insert(u.Rows, at, r)
		}
		out.Tables = append(out.Tables, u)
	}
	return out
}

func plainSort(b api.Bank, sort int) string {
	return append([]string{"Bool", "Real"}, b.Sorts...)[sort]
}

func plainQuote(name string) string {
	s, e := scan.Quote(name)
	if e != api.OK {
		panic("no name: " + name)
	}
	return s
}

func plainSpell(b api.Bank, v api.Value) string {
	switch v.Sort {
	case api.SortBool:
		return []string{"false", "true"}[v.N]
	case api.SortReal:
		s, _ := num.Spell(v.R)
		return s
	}
	return "(as @" + strconv.Itoa(v.N) + " " + plainQuote(plainSort(b, v.Sort)) + ")"
}

func plainShow(b api.Bank, m api.Model) string {
	text := "(\n"
	for i, f := range b.Funs {
		var params []string
		for k, s := range f.Args {
			params = append(params, "(x"+strconv.Itoa(k)+" "+plainQuote(plainSort(b, s))+")")
		}
		text += "  (define-fun " + plainQuote(f.Name) + " (" + strings.Join(params, " ") + ") " + plainQuote(plainSort(b, f.Out)) + " " + plainBody(b, m.Tables[i]) + ")\n"
	}
	return text + ")\n"
}

func plainBody(b api.Bank, t api.Table) string {
	if len(t.Rows) == 0 {
		return plainSpell(b, t.Else)
	}
	r := t.Rows[0]
	var equations []string
	for i, a := range r.Args {
		equations = append(equations, "(= x"+strconv.Itoa(i)+" "+plainSpell(b, a)+")")
	}
	condition := equations[0]
	if len(equations) > 1 {
		condition = "(and " + strings.Join(equations, " ") + ")"
	}
	return "(ite " + condition + " " + plainSpell(b, r.Out) + " " + plainBody(b, api.Table{Rows: t.Rows[1:], Else: t.Else}) + ")"
}

// tree is an expression.
type tree struct {
	api.Node
	kids []tree
}

func trees(nodes []api.Node) []tree {
	var list []tree
	for len(nodes) > 0 {
		size := nodes[0].Size
		list = append(list, tree{nodes[0], trees(nodes[1:size])})
		nodes = nodes[size:]
	}
	return list
}

func (t tree) isList() bool            { return t.Kind == api.KindOpen }
func (t tree) isSymbol() bool          { return t.Kind == api.KindSymbol }
func (t tree) symbol(text string) bool { return t.isSymbol() && t.Text == text }
func (t tree) word(text string) bool   { return t.Kind == api.KindWord && t.Text == text }
func (t tree) listOf(n int) bool       { return t.isList() && len(t.kids) == n }

// fault is what the plain reader gives up with.
type fault struct {
	e  api.Errno
	at int
}

func give(e api.Errno, at int) { panic(fault{e, at}) }

func plainRead(b api.Bank, text string) (m api.Model, e api.Errno, place int) {
	defer func() {
		switch f := recover().(type) {
		case nil:
		case fault:
			m, e, place = api.Model{}, f.e, f.at
		default:
			panic(f)
		}
	}()
	nodes, e, place := sexp.Read(text)
	if e != api.OK {
		give(e, place)
	}
	outer := trees(nodes)
	switch {
	case len(outer) == 0:
		give(api.ErrSyntax, len(text))
	case !outer[0].isList():
		give(api.ErrSyntax, outer[0].At)
	case len(outer) > 1:
		give(api.ErrSyntax, outer[1].At)
	}
	done := make([]bool, len(b.Funs))
	m.Tables = make([]api.Table, len(b.Funs))
	for _, d := range outer[0].kids {
		if !d.listOf(5) || !d.kids[0].word("define-fun") || !d.kids[1].isSymbol() || !d.kids[2].isList() || !d.kids[3].isSymbol() {
			give(api.ErrSyntax, d.At)
		}
		fun, known := -1, false
		for i := len(b.Funs) - 1; i >= 0; i-- {
			if b.Funs[i].Name == d.kids[1].Text {
				known = true
				if !done[i] {
					fun = i
				}
			}
		}
		if !known {
			give(api.ErrUnknown, d.kids[1].At)
		}
		if fun < 0 {
			give(api.ErrAgain, d.kids[1].At)
		}
		done[fun] = true
		m.Tables[fun] = plainDefinition(b, b.Funs[fun], d)
	}
	if slices.Contains(done, false) {
		give(api.ErrModel, outer[0].End-1)
	}
	return m, api.OK, 0
}

func plainDefinition(b api.Bank, f api.Fun, d tree) api.Table {
	if len(d.kids[2].kids) != len(f.Args) {
		give(api.ErrSort, d.kids[2].At)
	}
	var params []string
	for i, p := range d.kids[2].kids {
		if !p.listOf(2) || !p.kids[0].isSymbol() || !p.kids[1].isSymbol() {
			give(api.ErrSyntax, p.At)
		}
		if slices.Contains(params, p.kids[0].Text) {
			give(api.ErrAgain, p.kids[0].At)
		}
		if p.kids[1].Text != plainSort(b, f.Args[i]) {
			give(api.ErrSort, p.kids[1].At)
		}
		params = append(params, p.kids[0].Text)
	}
	if d.kids[3].Text != plainSort(b, f.Out) {
		give(api.ErrSort, d.kids[3].At)
	}
	return plainReadBody(b, f, params, d.kids[4])
}

func plainReadBody(b api.Bank, f api.Fun, params []string, body tree) api.Table {
	if len(f.Args) == 0 || !body.listOf(4) || !body.kids[0].symbol("ite") {
		return api.Table{Else: plainValue(b, body, f.Out)}
	}
	args := plainCondition(b, f, params, body.kids[1])
	out := plainValue(b, body.kids[2], f.Out)
	rest := plainReadBody(b, f, params, body.kids[3])
	return api.Table{Rows: append([]api.Row{{Args: args, Out: out}}, rest.Rows...), Else: rest.Else}
}

func plainCondition(b api.Bank, f api.Fun, params []string, c tree) []api.Value {
	equations := []tree{c}
	if n := len(f.Args); n > 1 {
		if !c.listOf(n+1) || !c.kids[0].symbol("and") {
			give(api.ErrSyntax, c.At)
		}
		equations = c.kids[1:]
	}
	got := map[int]api.Value{}
	for _, q := range equations {
		if !q.listOf(3) || !q.kids[0].symbol("=") {
			give(api.ErrSyntax, q.At)
		}
		index := func(t tree) int {
			if !t.isSymbol() {
				return -1
			}
			return slices.Index(params, t.Text)
		}
		i, v := index(q.kids[1]), q.kids[2]
		if i < 0 {
			i, v = index(q.kids[2]), q.kids[1]
		}
		if i < 0 {
			give(api.ErrSyntax, q.At)
		}
		if _, ok := got[i]; ok {
			give(api.ErrAgain, q.At)
		}
		got[i] = plainValue(b, v, f.Args[i])
	}
	var args []api.Value
	for i := range f.Args {
		args = append(args, got[i])
	}
	return args
}

func plainValue(b api.Bank, t tree, sort int) api.Value {
	if t.symbol("true") || t.symbol("false") {
		if sort != api.SortBool {
			give(api.ErrSort, t.At)
		}
		return plainTruth(t.Text == "true")
	}
	if t.listOf(3) && t.kids[0].word("as") && t.kids[1].isSymbol() && t.kids[2].isSymbol() {
		if name := t.kids[1].Text; strings.HasPrefix(name, "@") {
			n, ok := new(big.Int).SetString(name[1:], 10)
			if ok && n.IsInt64() && n.Sign() >= 0 && n.String() == name[1:] {
				if sort < 2 || plainSort(b, sort) != t.kids[2].Text {
					give(api.ErrSort, t.At)
				}
				return api.Value{Sort: sort, N: int(n.Int64())}
			}
		}
	}
	q := plainConstant(t)
	if sort != api.SortReal {
		give(api.ErrSort, t.At)
	}
	return number(q.RatString())
}

func plainConstant(t tree) *big.Rat {
	switch {
	case t.Kind == api.KindNumeral || t.Kind == api.KindDecimal:
		return rational(t.Text)
	case t.listOf(2) && t.kids[0].symbol("-"):
		q := plainConstant(t.kids[1])
		return q.Neg(q)
	case t.listOf(3) && t.kids[0].symbol("/"):
		q, by := plainConstant(t.kids[1]), plainConstant(t.kids[2])
		if by.Sign() == 0 {
			give(api.ErrZero, t.At)
		}
		return q.Quo(q, by)
	}
	give(api.ErrSyntax, t.At)
	return nil
}
