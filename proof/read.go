package proof

import (
	"slices"
	"strconv"

	"arbiter/api"
	"arbiter/num"
	"arbiter/sexp"
)

// misfit is what the reading gives up with, from however deep within.
type misfit struct {
	err api.Errno
	at  int
}

// reader reads a proof from the expressions of a text.
type reader struct {
	text  string
	nodes []api.Node
	kinds [api.DerivZero + 1]kind
}

func newReader(text string) *reader {
	return &reader{text: text, kinds: kinds()}
}

// fail gives up at an expression that cannot stand where it stands.
func (r *reader) fail(node int) {
	panic(misfit{api.ErrSyntax, r.nodes[node].At})
}

func (r *reader) proof() api.Proof {
	nodes, err, place := sexp.Read(r.text)
	if err != api.OK {
		panic(misfit{err, place})
	}
	r.nodes = nodes
	r.outermost()
	var p api.Proof
	for _, at := range r.parts() {
		things := r.things(at)
		switch r.part(at) {
		case partLemma:
			p.Lemmas = append(p.Lemmas, r.lemma(at, things))
		case partStep:
			p.Steps = append(p.Steps, r.step(at, things))
		case partFailed:
			r.want(at, len(things) == 2)
			p.Failed = r.literals(things[1])
		}
	}
	return p
}

// want gives up at an expression that is not so.
func (r *reader) want(node int, ok bool) {
	if !ok {
		r.fail(node)
	}
}

// outermost looks that just one expression stands outermost, a list.
func (r *reader) outermost() {
	if len(r.nodes) == 0 {
		panic(misfit{api.ErrSyntax, len(r.text)})
	}
	r.want(0, r.isList(0))
	if second := r.nodes[0].Size; second < len(r.nodes) {
		r.fail(second)
	}
}

// parts tells the lists in the outermost one; they stand in their order, and the last one is the only one of what failed.
func (r *reader) parts() []int {
	last, list := partLemma, r.things(0)
	ended := false
	for _, at := range list {
		part := r.part(at)
		r.want(at, part >= last && !ended)
		last, ended = part, part == partFailed
	}
	r.want(0, ended)
	return list
}

// part tells which list of a proof an expression is, or none.
func (r *reader) part(at int) int {
	if !r.isList(at) || r.nodes[at].Size == 1 {
		return none
	}
	return r.word(at+1, partWords())
}

func (r *reader) isList(at int) bool {
	return r.nodes[at].Kind == api.KindOpen
}

// word tells which one of the words an expression is, or none.
func (r *reader) word(at int, words []string) int {
	if r.nodes[at].Kind != api.KindSymbol {
		return none
	}
	return slices.Index(words, r.nodes[at].Text)
}

// things tells where the expressions in a list stand.
func (r *reader) things(at int) []int {
	var list []int
	for thing := at + 1; thing < at+r.nodes[at].Size; thing += r.nodes[thing].Size {
		list = append(list, thing)
	}
	return list
}

// list tells where the expressions stand in one that must be a list.
func (r *reader) list(at int) []int {
	r.want(at, r.isList(at))
	return r.things(at)
}

// listOf tells where the expressions stand in one that must be a list of so many.
func (r *reader) listOf(at, count int) []int {
	list := r.list(at)
	r.want(at, len(list) == count)
	return list
}

func (r *reader) lemma(at int, things []int) api.Lemma {
	r.want(at, len(things) >= 2)
	l := api.Lemma{Lits: r.literals(things[1])}
	for _, thing := range things[2:] {
		l.Derivs = append(l.Derivs, r.deriv(thing))
	}
	return l
}

func (r *reader) step(at int, things []int) api.Step {
	r.want(at, len(things) == 2 || len(things) == 3)
	s := api.Step{Lemma: -1}
	if len(things) == 3 {
		s.Lemma = r.numeral(things[1])
	}
	s.Lits = r.literals(things[len(things)-1])
	return s
}

func (r *reader) literals(at int) []int {
	var lits []int
	for _, thing := range r.list(at) {
		lits = append(lits, r.whole(thing))
	}
	return lits
}

// whole reads a whole number.
func (r *reader) whole(at int) int {
	if !r.isList(at) {
		return r.numeral(at)
	}
	things := r.listOf(at, 2)
	r.symbol(things[0], "-")
	return -r.numeral(things[1])
}

func (r *reader) symbol(at int, name string) {
	r.want(at, r.word(at, []string{name}) != none)
}

// numeral reads a whole number from 0 on that is not too great to be written.
func (r *reader) numeral(at int) int {
	n, err := strconv.Atoi(r.nodes[at].Text)
	r.want(at, r.nodes[at].Kind == api.KindNumeral && err == nil && n <= limit)
	return n
}

func (r *reader) deriv(at int) api.Deriv {
	things := r.list(at)
	r.want(at, len(things) > 0)
	number := r.kind(things[0])
	k := r.kinds[number]
	r.want(at, len(things) == k.size())
	d := api.Deriv{Kind: number}
	things = things[1:]
	if k.nodes {
		d.A, d.B = r.whole(things[0]), r.whole(things[1])
		things = things[2:]
	}
	if k.up {
		d.Up = r.facts(things[0])
		things = things[1:]
	}
	if k.down {
		d.Down = r.facts(things[0])
	}
	return d
}

// kind tells the kind of steps that a word names.
func (r *reader) kind(at int) int {
	words := make([]string, len(r.kinds))
	for i, k := range r.kinds {
		words[i] = k.word
	}
	number := r.word(at, words)
	r.want(at, isKind(number))
	return number
}

func (r *reader) facts(at int) []api.Coef {
	var facts []api.Coef
	for _, thing := range r.list(at) {
		facts = append(facts, r.fact(thing))
	}
	return facts
}

func (r *reader) fact(at int) api.Coef {
	things := r.listOf(at, 3)
	kind := r.word(things[0], factWords())
	r.want(things[0], isFact(kind))
	return api.Coef{Kind: kind, Ref: r.whole(things[1]), C: r.number(things[2])}
}

// number reads a rational.
func (r *reader) number(at int) string {
	if r.isList(at) && len(r.things(at)) == 2 {
		things := r.things(at)
		r.symbol(things[0], "-")
		text, _ := num.Sub("0", r.size(things[1]))
		return text
	}
	return r.size(at)
}

// size reads a rational without a sign.
func (r *reader) size(at int) string {
	if !r.isList(at) {
		return r.constant(at)
	}
	things := r.listOf(at, 3)
	r.symbol(things[0], "/")
	upper, lower := r.constant(things[1]), r.constant(things[2])
	text, err := num.Quo(upper, lower)
	r.want(things[2], err == api.OK)
	return text
}

// constant reads a numeral or a decimal.
func (r *reader) constant(at int) string {
	n := r.nodes[at]
	r.want(at, n.Kind == api.KindNumeral || n.Kind == api.KindDecimal)
	text, _ := num.Read(n.Text)
	return text
}
