package script_test

import (
	"math/rand"
	"slices"
	"strconv"
	"strings"

	"arbiter/scan"
)

// expr is a term that is written in two ways: as it stands, with let, definitions and labels, and written out.
type expr struct {
	short, long string
}

// name is a name that terms may be made of.
type name struct {
	name  string
	args  []string
	out   string
	means func(args []string) string // written out; nil: by its name
}

// level is what is known at a level that is open.
type level struct {
	names, sorts int
}

// gen makes scripts by chance: most of what it makes fits.
type gen struct {
	rng    *rand.Rand
	sorts  []string
	names  []name
	levels []level
	count  int
	wrong  int // of how many choices one is made regardless; 0: none
}

func newGen(seed int64, wrong int) *gen {
	return &gen{rng: rand.New(rand.NewSource(seed)), sorts: []string{"Bool", "Real"}, wrong: wrong}
}

func (g *gen) chance(of int) bool { return of > 0 && g.rng.Intn(of) == 0 }

func one[T any](g *gen, list ...T) T { return list[g.rng.Intn(len(list))] }

func (g *gen) fresh() string {
	g.count++
	if g.chance(g.wrong) {
		return one(g, "and", "true", "@z", ".w", "||", "let", "5", "x1", "x2", "Bool", "(x)", ":k")
	}
	if g.chance(8) {
		return "|a b" + strconv.Itoa(g.count) + "|"
	}
	return one(g, "x", "$", "Real", "_") + strconv.Itoa(g.count)
}

func (g *gen) sort() string {
	if g.chance(g.wrong) {
		return one(g, "Int", "U9", "(U)", "5", "let", ":k", "()", "|Bool|")
	}
	return one(g, g.sorts...)
}

// term makes a term of that sort; bound are the names of let and of parameters.
func (g *gen) term(sort string, depth int, bound []name) expr {
	if g.chance(g.wrong) {
		sort = one(g, g.sorts...)
	}
	if g.chance(4 * g.wrong) {
		return same(one(g, "#b1", "#xF", "\"s\"", ":k", "par", "()", "(f)", "nothing", "(nothing 1)", "(! true :named z)", "(as x Real)", "((x) 1)", "(5 5)", "and", "(true true)", "(let () true)", "(let ((and 1)) true)", "(let ((u 1)(u 2)) true)", "(let ((u)) true)", "(let (u) true)", "(let ((1 2)) true)", "(let u true)", "(let ((u 1)))", "(/ 1 0)", "(assert 1)", "(* 1)"))
	}
	if depth > 0 && g.chance(6) {
		return g.let(sort, depth, bound)
	}
	if depth == 0 || g.chance(5) {
		return g.leaf(sort, bound)
	}
	if g.chance(3) {
		if e, ok := g.apply(sort, depth, bound); ok {
			return e
		}
	}
	switch sort {
	case "Bool":
		return g.boolean(depth, bound)
	case "Real":
		return g.real(depth, bound)
	}
	return g.list("ite", []string{"Bool", sort, sort}, depth, bound)
}

func same(text string) expr { return expr{text, text} }

func (g *gen) list(head string, sorts []string, depth int, bound []name) expr {
	short, long := []string{head}, []string{head}
	for _, s := range sorts {
		e := g.term(s, depth-1, bound)
		short, long = append(short, e.short), append(long, e.long)
	}
	return expr{"(" + strings.Join(short, " ") + ")", "(" + strings.Join(long, " ") + ")"}
}

func (g *gen) many(sort string) []string {
	return slices.Repeat([]string{sort}, 2+g.rng.Intn(2))
}

func (g *gen) boolean(depth int, bound []name) expr {
	switch g.rng.Intn(6) {
	case 0:
		return g.list("not", []string{"Bool"}, depth, bound)
	case 1:
		return g.list(one(g, "=", "distinct"), g.many(one(g, g.sorts...)), depth, bound)
	case 2, 3:
		return g.list(one(g, "<", "<=", ">", ">="), g.many("Real"), depth, bound)
	case 4:
		return g.list("ite", []string{"Bool", "Bool", "Bool"}, depth, bound)
	}
	return g.list(one(g, "and", "or", "xor", "=>"), g.many("Bool"), depth, bound)
}

func (g *gen) real(depth int, bound []name) expr {
	switch g.rng.Intn(6) {
	case 0:
		return g.list("-", []string{"Real"}, depth, bound)
	case 1:
		return g.list("ite", []string{"Bool", "Real", "Real"}, depth, bound)
	case 2:
		e, c := g.term("Real", depth-1, bound), g.number()
		if g.chance(2) {
			return expr{"(* " + c + " " + e.short + ")", "(* " + c + " " + e.long + ")"}
		}
		return expr{"(* " + e.short + " " + c + ")", "(* " + e.long + " " + c + ")"}
	case 3:
		e, c := g.term("Real", depth-1, bound), one(g, "2", "0.5", "(- 3)", "(/ 1 3)")
		if g.chance(g.wrong) {
			c = one(g, "0", "x1", "0.0")
		}
		return expr{"(/ " + e.short + " " + c + ")", "(/ " + e.long + " " + c + ")"}
	}
	return g.list(one(g, "+", "-"), g.many("Real"), depth, bound)
}

func (g *gen) number() string {
	return one(g, "0", "1", "2", "1.50", "0.0", "(- 1)", "(/ 2 3)", "(- (/ 1.0 4))", "(- 0)", "(/ 0 5)", "12345678901234567890.5")
}

func (g *gen) leaf(sort string, bound []name) expr {
	e, ok := g.apply(sort, 0, bound)
	if ok && (sort != "Bool" && sort != "Real" || !g.chance(4)) {
		return e
	}
	switch sort {
	case "Bool":
		return same(one(g, "true", "false"))
	case "Real":
		return same(g.number())
	}
	return same("nothing")
}

// apply takes a name of that sort, at depth 0 one without arguments.
func (g *gen) apply(sort string, depth int, bound []name) (expr, bool) {
	var fit []name
	hidden := func(n name) bool { return slices.ContainsFunc(bound, func(b name) bool { return b.name == n.name }) }
	for _, n := range g.names {
		if n.out == sort && (depth > 0 || len(n.args) == 0) && !hidden(n) {
			fit = append(fit, n)
		}
	}
	for _, n := range bound {
		if n.out == sort && (depth > 0 || len(n.args) == 0) {
			fit = append(fit, n, n, n)
		}
	}
	if len(fit) == 0 {
		return expr{}, false
	}
	n := one(g, fit...)
	var short, long []string
	for _, s := range n.args {
		e := g.term(s, max(0, depth-1), bound)
		short, long = append(short, e.short), append(long, e.long)
	}
	text := n.name
	if len(short) > 0 {
		text = "(" + n.name + " " + strings.Join(short, " ") + ")"
	}
	if n.means != nil {
		return expr{text, n.means(long)}, true
	}
	if len(long) == 0 {
		return same(text), true
	}
	return expr{text, "(" + n.name + " " + strings.Join(long, " ") + ")"}, true
}

func (g *gen) let(sort string, depth int, bound []name) expr {
	inner := slices.Clone(bound)
	var parts, used []string
	for range 1 + g.rng.Intn(2) {
		s := one(g, g.sorts...)
		e := g.term(s, depth-1, bound)
		n := one(g, "u", "v", "w", "x1", "$0")
		if slices.Contains(used, n) {
			continue
		}
		used = append(used, n)
		parts = append(parts, "("+n+" "+e.short+")")
		inner = slices.DeleteFunc(inner, func(b name) bool { return b.name == n })
		inner = append(inner, name{name: n, out: s, means: func([]string) string { return e.long }})
	}
	body := g.term(sort, depth-1, inner)
	return expr{"(let (" + strings.Join(parts, " ") + ") " + body.short + ")", body.long}
}

// declare makes a declaration or a definition; its two ways are what it is written as, and what it leaves of it in a script without definitions.
func (g *gen) declare() expr {
	n := name{name: g.fresh()}
	switch g.rng.Intn(6) {
	case 0:
		g.sorts = append(g.sorts, n.name)
		first := name{name: "c" + strconv.Itoa(g.count), out: n.name}
		g.names = append(g.names, first)
		return same("(declare-sort " + n.name + " 0)(declare-const " + first.name + " " + n.name + ")")
	case 1, 2:
		n.out = g.sort()
		g.names = append(g.names, n)
		return same("(declare-const " + n.name + " " + n.out + ")")
	case 3:
		for range g.rng.Intn(3) {
			n.args = append(n.args, g.sort())
		}
		n.out = g.sort()
		g.names = append(g.names, n)
		return same("(declare-fun " + n.name + " (" + strings.Join(n.args, " ") + ") " + n.out + ")")
	}
	return g.define(n)
}

// hole is written where a parameter stands in a definition that is written out.
func hole(i int) string { return "\x00" + strconv.Itoa(i) + "\x00" }

func (g *gen) define(n name) expr {
	n.out = one(g, g.sorts...)
	var bound []name
	var params []string
	for i := range g.rng.Intn(3) {
		s := g.sort()
		p := "p" + strconv.Itoa(i)
		if g.chance(3 * g.wrong) {
			p = one(g, "p0", "and", "5", "@p")
		}
		params = append(params, "("+p+" "+s+")")
		n.args = append(n.args, s)
		bound = append(bound, name{name: p, out: s, means: func([]string) string { return hole(i) }})
	}
	body := g.term(n.out, 2, bound)
	n.means = func(args []string) string {
		text := body.long
		for i, a := range args {
			text = strings.ReplaceAll(text, hole(i), a)
		}
		return text
	}
	g.names = append(g.names, n)
	if len(params) == 0 && g.chance(2) {
		return expr{"(define-const " + n.name + " " + n.out + " " + body.short + ")", ""}
	}
	return expr{"(define-fun " + n.name + " (" + strings.Join(params, " ") + ") " + n.out + " " + body.short + ")", ""}
}

func (g *gen) assert() expr {
	e := g.term("Bool", 3, nil)
	if !g.chance(3) {
		return expr{"(assert " + e.short + ")", "(assert " + e.long + ")"}
	}
	label := g.fresh()
	g.names = append(g.names, name{name: label, out: "Bool", means: func([]string) string { return e.long }})
	return expr{"(assert (! " + e.short + " :named " + label + "))", "(assert (! " + e.long + " :named " + label + "))"}
}

func (g *gen) level() expr {
	n := g.rng.Intn(3)
	if g.chance(2) {
		for range n {
			g.levels = append(g.levels, level{len(g.names), len(g.sorts)})
		}
		return same("(push " + strconv.Itoa(n) + ")")
	}
	if !g.chance(g.wrong) {
		n = min(n, len(g.levels))
	}
	if rest := len(g.levels) - n; rest >= 0 && n > 0 {
		g.names, g.sorts = slices.Clip(g.names[:g.levels[rest].names]), slices.Clip(g.sorts[:g.levels[rest].sorts])
		g.levels = g.levels[:rest]
	}
	return same("(pop " + strconv.Itoa(n) + ")")
}

func (g *gen) command() expr {
	switch g.rng.Intn(12) {
	case 0, 1, 2, 3:
		return g.declare()
	case 4, 5, 6:
		return g.assert()
	case 7:
		return g.level()
	case 8:
		a, b := g.term(one(g, g.sorts...), 2, nil), g.term("Real", 1, nil)
		return expr{"(get-value (" + a.short + " " + b.short + "))", "(get-value (" + a.long + " " + b.long + "))"}
	case 9:
		e := g.term("Bool", 2, nil)
		return expr{"(check-sat-assuming (" + e.short + "))", "(check-sat-assuming (" + e.long + "))"}
	case 10:
		if g.chance(5) {
			g.names, g.sorts, g.levels = nil, []string{"Bool", "Real"}, nil
			return same(one(g, "(reset)", "(reset-assertions)"))
		}
	}
	if g.chance(g.wrong) {
		return same(one(g, "(exit)", "(get-assignment)", "(foo)", "x", "()", "(5)", "(let)", "(set-logic QF_BV)", "(set-option :k :v)", "(get-info k)", "(check-sat 1)", "(push x)", "(push 99999)", "(echo x)", "(define-sort D (x) Real)", "(define-fun-rec)"))
	}
	return same(one(g, "(check-sat)", "(get-model)", "(get-unsat-core)", "(get-unsat-assumptions)", "(get-proof)", "(get-assertions)", "(echo \"a \"\"b\")", "(set-info :k (a  |b| \"c\"))", "(set-info :k)", "(set-option :o #xAF)", "(get-info :name)", "(get-option :o)", "(check-sat-assuming ())"))
}

// script makes a text of commands in both ways.
func (g *gen) script(commands int) expr {
	var short, long strings.Builder
	if g.chance(3) {
		short.WriteString("(set-logic ALL)\n")
		long.WriteString("(set-logic ALL)\n")
	}
	for range commands {
		e := g.command()
		short.WriteString(e.short + "\n")
		long.WriteString(e.long + "\n")
	}
	return expr{short.String(), long.String()}
}

// mutate changes a few tokens of a text.
func (g *gen) mutate(text string) string {
	tokens, _, _ := scan.Tokens(text)
	var parts []string
	for _, t := range tokens {
		parts = append(parts, text[t.At:t.End])
	}
	for range 1 + g.rng.Intn(2) {
		if len(parts) == 0 {
			break
		}
		i := g.rng.Intn(len(parts))
		switch g.rng.Intn(4) {
		case 0:
			parts = slices.Delete(parts, i, i+1)
		case 1:
			parts = slices.Insert(parts, i, parts[g.rng.Intn(len(parts))])
		case 2:
			parts[i] = parts[g.rng.Intn(len(parts))]
		case 3:
			parts[i] = one(g, "(", ")", "let", "!", "x", "0", "1.5", ":named", "\"s\"", "and", "Bool", "01", "'", "exit", "()")
		}
	}
	return strings.Join(parts, " ")
}
