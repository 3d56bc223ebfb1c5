package arbiter_test

import (
	"math/rand"
	"slices"
	"strconv"
	"strings"

	"arbiter/arbiter"
)

// words is a text written in two ways: with let, definitions and labels, and without.
type words struct {
	short, long string
}

func plainWords(text string) words { return words{text, text} }

// known is a name that terms can be made of.
type known struct {
	name  string
	args  []string
	out   string
	means func(args []string) string // of a definition or a label: how it is written out
}

// gen makes scripts by chance, and runs them as it goes, so that it knows what may be asked.
type gen struct {
	rng      *rand.Rand
	sorts    []string
	names    []known
	levels   [][2]int // by open level: how many sorts and names there were
	count    int
	session  *arbiter.Session
	last     string // what the last check answered, while that counts
	assuming bool
	done     bool
	parts    []words // the commands
}

func newGen(seed int64) *gen {
	g := &gen{rng: rand.New(rand.NewSource(seed)), session: arbiter.New()}
	g.forget()
	return g
}

func (g *gen) forget() {
	g.sorts, g.names, g.levels = []string{"Bool", "Real"}, nil, nil
}

func (g *gen) chance(of int) bool { return g.rng.Intn(of) == 0 }

func pick[T any](g *gen, list ...T) T { return list[g.rng.Intn(len(list))] }

func (g *gen) fresh() string {
	g.count++
	return pick(g, "x", "y", "$", "|a b", "f") + strconv.Itoa(g.count)
}

func closed(name string) string {
	if strings.HasPrefix(name, "|") {
		return name + "|"
	}
	return name
}

func (g *gen) list(head string, args ...words) words {
	short, long := []string{head}, []string{head}
	for _, a := range args {
		short, long = append(short, a.short), append(long, a.long)
	}
	return words{"(" + strings.Join(short, " ") + ")", "(" + strings.Join(long, " ") + ")"}
}

// leaf is a name of that sort without arguments, or a constant.
func (g *gen) leaf(sort string) words {
	var fit []known
	for _, n := range g.names {
		if n.out == sort && len(n.args) == 0 {
			fit = append(fit, n)
		}
	}
	if len(fit) > 0 && (sort != "Bool" && sort != "Real" || !g.chance(4)) {
		n := pick(g, fit...)
		if n.means != nil {
			return words{n.name, n.means(nil)}
		}
		return plainWords(n.name)
	}
	if sort == "Bool" {
		return plainWords(pick(g, "true", "false"))
	}
	return plainWords(pick(g, "0", "1", "2", "(- 1)", "0.5", "(/ 1 3)"))
}

func (g *gen) apply(sort string, depth int) words {
	for range 6 {
		n := pick(g, append(g.names, known{})...)
		if n.out != sort || len(n.args) == 0 {
			continue
		}
		var args []words
		for _, s := range n.args {
			args = append(args, g.term(s, depth-1))
		}
		w := g.list(n.name, args...)
		if n.means != nil {
			var long []string
			for _, a := range args {
				long = append(long, a.long)
			}
			w.long = n.means(long)
		}
		return w
	}
	return g.leaf(sort)
}

func (g *gen) term(sort string, depth int) words {
	if depth <= 0 {
		return g.leaf(sort)
	}
	some := func(s string) words { return g.term(s, depth-1) }
	switch {
	case g.chance(3):
		return g.apply(sort, depth)
	case g.chance(8):
		return g.let(sort, depth)
	case g.chance(6) || sort != "Bool" && sort != "Real":
		return g.list("ite", some("Bool"), some(sort), some(sort))
	case sort == "Real":
		return pick(g, g.list("+", some("Real"), some("Real")), g.list("-", some("Real"), some("Real")), g.list("- ", some("Real")), g.list("*", plainWords("2"), some("Real")))
	}
	s := pick(g, g.sorts...)
	switch g.rng.Intn(6) {
	case 0:
		return g.list("not", some("Bool"))
	case 1:
		return g.list(pick(g, "and", "or", "xor", "=>"), some("Bool"), some("Bool"))
	case 2:
		return g.list(pick(g, "<", "<=", ">", ">="), some("Real"), some("Real"))
	}
	return g.list(pick(g, "=", "distinct"), some(s), some(s))
}

// let binds a name that is like no other.
func (g *gen) let(sort string, depth int) words {
	g.count++
	s := pick(g, g.sorts...)
	bound := g.term(s, depth-1)
	name := "v" + strconv.Itoa(g.count)
	g.names = append(g.names, known{name: name, out: s, means: func([]string) string { return bound.long }})
	body := g.term(sort, depth-1)
	g.names = g.names[:len(g.names)-1]
	return words{"(let ((" + name + " " + bound.short + ")) " + body.short + ")", body.long}
}

func (g *gen) declare() words {
	name := closed(g.fresh())
	switch g.rng.Intn(6) {
	case 0:
		if len(g.sorts) < 4 {
			g.sorts = append(g.sorts, name)
			g.names = append(g.names, known{name: "c" + name, out: name})
			return plainWords("(declare-sort " + name + " 0)(declare-const c" + name + " " + name + ")")
		}
	case 1:
		return g.define(name)
	case 2, 3:
		n := known{name: name, out: pick(g, g.sorts...)}
		for range 1 + g.rng.Intn(2) {
			n.args = append(n.args, pick(g, g.sorts...))
		}
		g.names = append(g.names, n)
		return plainWords("(declare-fun " + name + " (" + strings.Join(n.args, " ") + ") " + n.out + ")")
	}
	n := known{name: name, out: pick(g, g.sorts...)}
	g.names = append(g.names, n)
	return plainWords("(declare-const " + name + " " + n.out + ")")
}

func (g *gen) define(name string) words {
	s, out := pick(g, g.sorts...), pick(g, g.sorts...)
	g.names = append(g.names, known{name: "p", out: s, means: func([]string) string { return "\x00" }})
	body := g.term(out, 2)
	g.names = g.names[:len(g.names)-1]
	g.names = append(g.names, known{name: name, args: []string{s}, out: out, means: func(args []string) string { return strings.ReplaceAll(body.long, "\x00", args[0]) }})
	return words{"(define-fun " + name + " ((p " + s + ")) " + out + " " + body.short + ")", ""}
}

func (g *gen) assert() words {
	w := g.term("Bool", 2)
	if g.chance(2) {
		w = g.list("or", w, g.term("Bool", 2))
	}
	if g.chance(3) {
		return words{"(assert " + w.short + ")", "(assert " + w.long + ")"}
	}
	label := closed(g.fresh())
	g.names = append(g.names, known{name: label, out: "Bool", means: func([]string) string { return w.long }})
	return words{"(assert (! " + w.short + " :named " + label + "))", "(assert (! " + w.long + " :named " + label + "))"}
}

func (g *gen) level() words {
	n := g.rng.Intn(3)
	if g.chance(2) {
		for range n {
			g.levels = append(g.levels, [2]int{len(g.sorts), len(g.names)})
		}
		return plainWords("(push " + strconv.Itoa(n) + ")")
	}
	n = min(n, len(g.levels))
	if n > 0 {
		rest := len(g.levels) - n
		g.sorts, g.names = slices.Clip(g.sorts[:g.levels[rest][0]]), slices.Clip(g.names[:g.levels[rest][1]])
		g.levels = g.levels[:rest]
	}
	return plainWords("(pop " + strconv.Itoa(n) + ")")
}

func (g *gen) check() words {
	g.assuming = g.chance(2)
	if !g.assuming {
		return plainWords("(check-sat)")
	}
	var list []words
	for range g.rng.Intn(4) {
		list = append(list, g.term("Bool", g.rng.Intn(3)))
	}
	w := g.list("", list...)
	return words{"(check-sat-assuming " + strings.Replace(w.short, "( ", "(", 1) + ")", "(check-sat-assuming " + strings.Replace(w.long, "( ", "(", 1) + ")"}
}

// ask asks for something; seldom for what may not be asked.
func (g *gen) ask() words {
	value := func() words {
		w := g.list("get-value", g.list("", g.term(pick(g, g.sorts...), 2), g.term("Real", 1)))
		return words{strings.Replace(w.short, "( ", "(", 1), strings.Replace(w.long, "( ", "(", 1)}
	}
	all := []words{plainWords("(get-assertions)"), plainWords("(echo \"a \"\"b\")"), plainWords("(get-info :" + pick(g, "name", "version", "authors", "error-behavior", "assertion-stack-levels") + ")"), plainWords("(get-option :" + pick(g, "produce-models", "produce-proofs", "produce-unsat-cores", "produce-unsat-assumptions", "print-success", "x") + ")"), plainWords("(set-option :x 1)"), plainWords("(set-option :print-success " + pick(g, "true", "false") + ")"), plainWords("(set-info :k)")}
	wrong := g.chance(60)
	if g.last == "sat\n" || wrong {
		all = append(all, plainWords("(get-model)"), value(), value(), value(), plainWords("(get-model)"), value())
	}
	if g.last == "unsat\n" || wrong {
		all = append(all, plainWords("(get-unsat-core)"), plainWords("(get-unsat-core)"), plainWords("(get-unsat-core)"), plainWords("(get-proof)"), plainWords("(get-proof)"))
		if g.assuming || wrong {
			all = append(all, plainWords("(get-unsat-assumptions)"), plainWords("(get-unsat-assumptions)"), plainWords("(get-unsat-assumptions)"))
		}
	}
	return pick(g, all...)
}

func (g *gen) command() words {
	switch n := g.rng.Intn(40); {
	case n < 11:
		return g.declare()
	case n < 21:
		return g.assert()
	case n < 24:
		return g.level()
	case n < 29:
		return g.check()
	case n == 29 && g.chance(5):
		g.forget()
		return plainWords(pick(g, "(reset)", "(reset-assertions)"))
	case n == 30 && g.chance(6):
		return plainWords(pick(g, "(exit)", "(set-option :produce-models false)", "(assert nothing)", "x", "(pop 9)", "(declare-const and Bool)"))
	}
	return g.ask()
}

// script makes commands; some change the options first.
func (g *gen) script(commands int) words {
	if g.chance(4) {
		g.add(plainWords("(set-option :produce-" + pick(g, "models", "proofs", "unsat-cores", "unsat-assumptions") + " " + pick(g, "true", "false", "false") + ")"))
	}
	for range 4 + g.rng.Intn(4) {
		g.add(g.declare())
	}
	for range commands {
		g.add(g.command())
	}
	var w words
	for _, p := range g.parts {
		w.short, w.long = w.short+p.short+"\n", w.long+p.long+"\n"
	}
	return w
}

func (g *gen) add(w words) {
	g.parts = append(g.parts, w)
	if response := g.session.Feed(w.short); response == "sat\n" || response == "unsat\n" {
		g.last = response
	} else if response == "" && !strings.HasPrefix(w.short, "(set-") && !strings.HasPrefix(w.short, "(define") {
		g.last = ""
	}
}
