package term_test

import (
	"math/big"
	"slices"

	"arbiter/api"
)

// plain is a bank by the chapter's words and nothing else: what is looked for is looked for in the whole list, and what is asked is worked out by calls of itself.
type plain struct {
	api.Bank
	limit int
}

func (p *plain) sortThere(s int) bool { return s >= 0 && s < 2+len(p.Sorts) }

func (p *plain) there(terms ...int) bool {
	for _, t := range terms {
		if t < 0 || t >= len(p.Terms) {
			return false
		}
	}
	return true
}

func (p *plain) sort(name string) int {
	p.Sorts = append(p.Sorts, name)
	return 1 + len(p.Sorts)
}

func (p *plain) fun(name string, args []int, out int) (int, api.Errno) {
	for _, s := range append(slices.Clone(args), out) {
		if !p.sortThere(s) {
			return 0, api.ErrIndex
		}
	}
	p.Funs = append(p.Funs, api.Fun{Name: name, Args: slices.Clone(args), Out: out})
	return len(p.Funs) - 1, api.OK
}

func sameTerm(a, b api.Term) bool {
	return a.Op == b.Op && a.Fun == b.Fun && a.Num == b.Num && a.Sort == b.Sort && slices.Equal(a.Args, b.Args)
}

func sameBank(a, b api.Bank) bool {
	sameFun := func(f, g api.Fun) bool { return f.Name == g.Name && f.Out == g.Out && slices.Equal(f.Args, g.Args) }
	return slices.Equal(a.Sorts, b.Sorts) && slices.EqualFunc(a.Funs, b.Funs, sameFun) && slices.EqualFunc(a.Terms, b.Terms, sameTerm)
}

func (p *plain) keep(t api.Term) (int, api.Errno) {
	for i, u := range p.Terms {
		if sameTerm(t, u) {
			return i, api.OK
		}
	}
	if len(p.Terms) >= p.limit {
		return 0, api.ErrLimit
	}
	t.Args = slices.Clone(t.Args)
	p.Terms = append(p.Terms, t)
	return len(p.Terms) - 1, api.OK
}

// canonical tells a rational by the library, if the text is just how it is written.
func canonical(text string) (*big.Rat, bool) {
	if text == "" || text[0] == '+' {
		return nil, false
	}
	for _, r := range text {
		if r != '-' && r != '/' && (r < '0' || r > '9') {
			return nil, false
		}
	}
	q, ok := new(big.Rat).SetString(text)
	return q, ok && q.RatString() == text
}

func (p *plain) num(text string) (int, api.Errno) {
	if _, ok := canonical(text); !ok {
		return 0, api.ErrText
	}
	return p.keep(api.Term{Op: api.OpNum, Num: text, Sort: 1})
}

func (p *plain) app(fun int, args []int) (int, api.Errno) {
	if fun < 0 || fun >= len(p.Funs) || !p.there(args...) {
		return 0, api.ErrIndex
	}
	var sorts []int
	for _, a := range args {
		sorts = append(sorts, p.Terms[a].Sort)
	}
	if !slices.Equal(sorts, p.Funs[fun].Args) {
		return 0, api.ErrSort
	}
	return p.keep(api.Term{Op: api.OpApp, Fun: fun, Args: args, Sort: p.Funs[fun].Out})
}

// fits tells by the chapter's table whether an operator may stand at terms of these sorts, and of which sort it is then.
func fits(op int, sorts []int) (int, bool) {
	all := func(s int) bool {
		return !slices.ContainsFunc(sorts, func(x int) bool { return x != s })
	}
	n := len(sorts)
	switch op {
	case 1, 2:
		return 0, n == 0
	case 5:
		return 0, n == 1 && all(0)
	case 6, 7, 8, 9:
		return 0, n >= 2 && all(0)
	case 10, 11:
		return 0, n >= 2 && all(sorts[0])
	case 12:
		if n != 3 {
			return 0, false
		}
		return sorts[1], sorts[0] == 0 && sorts[1] == sorts[2]
	case 14:
		return 1, n >= 1 && all(1)
	case 13, 15, 16:
		return 1, n >= 2 && all(1)
	}
	return 0, n >= 2 && all(1)
}

func (p *plain) isNum(t int) bool { return p.Terms[t].Op == 3 }

func (p *plain) op(op int, args []int) (int, api.Errno) {
	if !p.there(args...) {
		return 0, api.ErrIndex
	}
	if op < 1 || op > 20 || op == 3 || op == 4 {
		return 0, api.ErrOp
	}
	var sorts []int
	others := 0
	for _, a := range args {
		sorts = append(sorts, p.Terms[a].Sort)
		if !p.isNum(a) {
			others++
		}
	}
	sort, ok := fits(op, sorts)
	if !ok {
		return 0, api.ErrSort
	}
	if op == 15 && others > 1 || op == 16 && (others > 1 || others == 1 && p.isNum(args[0])) {
		return 0, api.ErrLinear
	}
	if op == 16 && slices.ContainsFunc(args[1:], func(a int) bool { return p.Terms[a].Num == "0" }) {
		return 0, api.ErrZero
	}
	if op >= 13 && op <= 16 && others == 0 {
		return p.keep(api.Term{Op: 3, Num: p.folded(op, args), Sort: 1})
	}
	return p.keep(api.Term{Op: op, Args: args, Sort: sort})
}

func (p *plain) folded(op int, args []int) string {
	value, _ := canonical(p.Terms[args[0]].Num)
	if op == 14 && len(args) == 1 {
		return value.Neg(value).RatString()
	}
	for _, a := range args[1:] {
		next, _ := canonical(p.Terms[a].Num)
		switch op {
		case 13:
			value.Add(value, next)
		case 14:
			value.Sub(value, next)
		case 15:
			value.Mul(value, next)
		case 16:
			value.Quo(value, next)
		}
	}
	return value.RatString()
}

// reach goes down from t, but not into what stop says.
func (p *plain) reach(t int, stop func(int) bool, into []int) []int {
	if slices.Contains(into, t) {
		return into
	}
	into = append(into, t)
	if !stop(t) {
		for _, a := range p.Terms[t].Args {
			into = p.reach(a, stop, into)
		}
	}
	return into
}

func never(int) bool { return false }

func (p *plain) subst(t int, from, to []int) (int, api.Errno) {
	if !p.there(t) || !p.there(from...) || !p.there(to...) {
		return 0, api.ErrIndex
	}
	if len(from) != len(to) {
		return 0, api.ErrCount
	}
	for i := range from {
		if p.Terms[from[i]].Sort != p.Terms[to[i]].Sort {
			return 0, api.ErrSort
		}
	}
	before := len(p.Terms)
	into := map[int]int{}
	reached := p.reach(t, func(u int) bool { return slices.Contains(from, u) }, nil)
	slices.Sort(reached)
	for _, u := range reached {
		into[u] = u
		if i := slices.Index(from, u); i >= 0 {
			into[u] = to[i]
			continue
		}
		v := p.Terms[u]
		var args []int
		for _, a := range v.Args {
			args = append(args, into[a])
		}
		if slices.Equal(args, v.Args) {
			continue
		}
		made, err := p.op(v.Op, args)
		if v.Op == api.OpApp {
			made, err = p.app(v.Fun, args)
		}
		if err != api.OK {
			p.Terms = p.Terms[:before]
			return 0, err
		}
		into[u] = made
	}
	return into[t], api.OK
}

// lin adds times t to the coefficients, the constant under -1.
func (p *plain) lin(t int, times *big.Rat, into map[int]*big.Rat) {
	v := p.Terms[t]
	add := func(key int, q *big.Rat) {
		if into[key] == nil {
			into[key] = new(big.Rat)
		}
		into[key].Add(into[key], q)
	}
	switch v.Op {
	case 3:
		q, _ := canonical(v.Num)
		add(-1, q.Mul(q, times))
	case 13, 14:
		for i, a := range v.Args {
			q := new(big.Rat).Set(times)
			if v.Op == 14 && (i > 0 || len(v.Args) == 1) {
				q.Neg(q)
			}
			p.lin(a, q, into)
		}
	case 15, 16:
		q := new(big.Rat).Set(times)
		of := v.Args[0]
		for i, a := range v.Args {
			c, _ := canonical(p.Terms[a].Num)
			switch {
			case v.Op == 16 && i == 0:
			case v.Op == 16:
				q.Quo(q, c)
			case p.isNum(a):
				q.Mul(q, c)
			default:
				of = a
			}
		}
		p.lin(of, q, into)
	default:
		add(t, times)
	}
}

func (p *plain) form(t int) (api.Lin, api.Errno) {
	if !p.there(t) {
		return api.Lin{}, api.ErrIndex
	}
	if p.Terms[t].Sort != 1 {
		return api.Lin{}, api.ErrSort
	}
	into := map[int]*big.Rat{-1: new(big.Rat)}
	p.lin(t, big.NewRat(1, 1), into)
	f := api.Lin{K: into[-1].RatString()}
	for v := range p.Terms {
		if c := into[v]; c != nil && c.Sign() != 0 {
			f.M = append(f.M, api.Mono{V: v, C: c.RatString()})
		}
	}
	return f, api.OK
}

func (p *plain) weight(t int) int {
	sum := 1
	for _, a := range p.Terms[t].Args {
		sum += p.weight(a)
	}
	return sum
}

// compact numbers by calls of itself.
func (p *plain) compact(roots []int) (api.Bank, []int) {
	out := api.Bank{Sorts: p.Sorts, Funs: p.Funs}
	number := map[int]int{}
	var leave func(t int)
	leave = func(t int) {
		if _, ok := number[t]; ok {
			return
		}
		v := p.Terms[t]
		v.Args = slices.Clone(v.Args)
		for i, a := range v.Args {
			leave(a)
			v.Args[i] = number[a]
		}
		number[t] = len(out.Terms)
		out.Terms = append(out.Terms, v)
	}
	var anew []int
	for _, r := range roots {
		leave(r)
		anew = append(anew, number[r])
	}
	return out, anew
}

// check is T7, word for word.
func check(b api.Bank) api.Errno {
	p := &plain{limit: api.MaxTerms}
	p.Sorts = b.Sorts
	for _, f := range b.Funs {
		if _, err := p.fun(f.Name, f.Args, f.Out); err != api.OK {
			return err
		}
	}
	for i, t := range b.Terms {
		if t.Op < 1 || t.Op > 20 || t.Fun != 0 && t.Op != 4 || t.Num != "" && t.Op != 3 || len(t.Args) > 0 && t.Op == 3 {
			return api.ErrOp
		}
		var n int
		var err api.Errno
		switch t.Op {
		case 3:
			n, err = p.num(t.Num)
		case 4:
			n, err = p.app(t.Fun, t.Args)
		default:
			n, err = p.op(t.Op, t.Args)
		}
		switch {
		case err != api.OK:
			return err
		case n != i || p.Terms[n].Op != t.Op:
			return api.ErrIndex
		case p.Terms[n].Sort != t.Sort:
			return api.ErrSort
		}
	}
	return api.OK
}
