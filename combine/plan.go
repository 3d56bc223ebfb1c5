package combine

import (
	"strconv"
	"strings"

	"arbiter/api"
	"arbiter/lin"
	"arbiter/num"
)

// none is no variable.
const none = -1

// spare is how many differences, beside as many as there are other rows, are kept although nothing is said of them.
const spare = 100

// plan is how nodes, constraints and differences of nodes stand in a tableau.
//
// A node of sort Real that is no form is worth a variable and a number, its spot. What nothing is said of is worth its spot: so arguments whose sameness matters are mostly apart from the beginning, without a search for a point where they are.
type plan struct {
	free   int          // the variables that are no rows: one for each such node
	cells  []int        // by node: this variable, or none
	spots  []string     // by such a variable
	rows   []api.Lin    // first those of nodes, then constraints, then differences
	fixed  int          // how many rows are no differences
	vars   []int        // by node: the variable that is what it is worth, or none
	limits []limit      // by atom
	pairs  []pair       // the nodes of the differences
	spans  map[pair]int // by nodes: the variable of their difference
}

// limit is the bound that a constraint comes to.
type limit struct {
	v      int // or none: the atom is no constraint
	upper  bool
	strict bool
	at     string
	scale  string // how often the bound is taken in the constraint
}

func newPlan(g api.Goal) plan {
	p := plan{limits: make([]limit, len(g.Atoms)), spans: map[pair]int{}}
	p.settle(g)
	for i, n := range g.Nodes {
		p.vars = append(p.vars, p.cells[i])
		switch {
		case n.Kind == api.NodeLin:
			p.vars[i] = p.row(n.Lin)
		case p.cells[i] != none && p.spots[p.cells[i]] != "0":
			p.vars[i] = p.row(api.Lin{M: []api.Mono{{V: i, C: "1"}}, K: "0"})
		}
	}
	known := map[string]int{}
	for i, atom := range g.Atoms {
		p.limits[i].v = none
		if atom.Kind == api.AtomCon {
			p.limits[i] = p.limit(atom.Con, known)
		}
	}
	p.fixed = len(p.rows)
	return p
}

// settle gives the nodes variables and spots. All distances between the spots of those that matter are unlike, if they stand at 2pk + (k*k mod p), where p is a prime and k is below it (Erdos and Turan): so few forms of them are the same by chance.
func (p *plan) settle(g api.Goal) {
	matter, k := matters(g), 0
	prime := primeFrom(len(matter) + 1)
	for i, n := range g.Nodes {
		if n.Sort != api.SortReal || n.Kind == api.NodeLin {
			p.cells = append(p.cells, none)
			continue
		}
		spot := 0
		if _, ok := matter[i]; ok {
			k++
			spot = 2*prime*k + k*k%prime
		}
		p.cells = append(p.cells, p.free)
		p.spots = append(p.spots, strconv.Itoa(spot))
		p.free++
	}
}

// primeFrom tells the first prime from a number on.
func primeFrom(n int) int {
	for n = max(n, 2); ; n++ {
		divisor := 2
		for divisor*divisor <= n && n%divisor != 0 {
			divisor++
		}
		if divisor*divisor > n {
			return n
		}
	}
}

// matters tells the nodes that are arguments of functions that are applied more than once, or stand in forms that are.
func matters(g api.Goal) map[int]struct{} {
	found, times := map[int]struct{}{}, applied(g)
	for _, n := range g.Nodes {
		if times[n.Fun] < 2 {
			continue
		}
		for _, arg := range n.Args {
			found[arg] = struct{}{}
			for _, mono := range g.Nodes[arg].Lin.M {
				found[mono.V] = struct{}{}
			}
		}
	}
	return found
}

// row adds a row for a form over nodes, and tells its variable.
func (p *plan) row(f api.Lin) int {
	own := api.Lin{M: make([]api.Mono, len(f.M)), K: f.K}
	for i, mono := range f.M {
		cell := p.cells[mono.V]
		own.M[i] = api.Mono{V: cell, C: mono.C}
		more, _ := num.Mul(mono.C, p.spots[cell])
		own.K, _ = num.Add(own.K, more)
	}
	p.rows = append(p.rows, own)
	return p.free + len(p.rows) - 1
}

// limit tells the bound of a constraint. Constraints whose forms are multiples of one another, but for their constants, have one variable, known by the text of its form.
func (p *plan) limit(c api.Con, known map[string]int) limit {
	lead := "1"
	if len(c.F.M) > 0 {
		lead = c.F.M[0].C
	}
	inverse, _ := num.Quo("1", lead)
	f, _ := lin.Scale(c.F, inverse)
	l := limit{upper: lead[0] != '-', strict: c.Op == api.ConLt, scale: strings.TrimPrefix(lead, "-")}
	l.at, _ = num.Sub("0", f.K)
	f.K = "0"
	if len(f.M) == 1 {
		l.v = p.cells[f.M[0].V]
		l.at, _ = num.Sub(l.at, p.spots[l.v])
		return l
	}
	key := formKey(f)
	v, found := known[key]
	if !found {
		v = p.row(f)
		known[key] = v
	}
	l.v = v
	return l
}

// formKey tells a text that only forms with the same multiples have.
func formKey(f api.Lin) string {
	var key strings.Builder
	for _, mono := range f.M {
		key.WriteString(strconv.Itoa(mono.V) + " " + mono.C + " ")
	}
	return key.String()
}

// span tells the variable of the difference of two nodes, which may be new.
func (p *plan) span(nodes pair) int {
	v, known := p.spans[nodes]
	if !known {
		f, _ := lin.Form([]api.Mono{{V: nodes.a, C: "1"}, {V: nodes.b, C: "-1"}}, "0")
		v = p.row(f)
		p.spans[nodes] = v
		p.pairs = append(p.pairs, nodes)
	}
	return v
}

// shed forgets all differences, and tells which they were.
func (p *plan) shed() []pair {
	old := p.pairs
	p.rows, p.pairs = p.rows[:p.fixed], nil
	clear(p.spans)
	return old
}

// bound tells the bound that a literal of the constraint comes to.
func (l limit) bound(lit int) api.Bound {
	b := api.Bound{V: l.v, Upper: l.upper == (lit > 0), At: api.Delta{A: l.at, B: "0"}, Tag: lit}
	switch {
	case l.strict != (lit > 0):
	case b.Upper:
		b.At.B = "-1"
	default:
		b.At.B = "1"
	}
	return b
}
