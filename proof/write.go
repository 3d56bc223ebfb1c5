package proof

import (
	"strconv"
	"strings"

	"arbiter/api"
	"arbiter/num"
)

// limit is the greatest whole number that is written, sign aside.
const limit = 1000000000

// The lists of a proof, in their order.
const (
	partLemma = iota
	partStep
	partFailed
)

// partWords tells with which words the lists of a proof begin.
func partWords() []string {
	return []string{partLemma: "lemma", partStep: "step", partFailed: "failed"}
}

// factWords tells by their kinds with which words facts begin.
func factWords() []string {
	return []string{api.CoefLit: "lit", api.CoefEq: "eq", api.CoefDef: "def"}
}

// isFact tells whether facts can be of that kind.
func isFact(number int) bool {
	return number >= api.CoefLit && number <= api.CoefDef
}

// writer writes a proof. Once something could not be written, it is all in vain.
type writer struct {
	kinds  [api.DerivZero + 1]kind
	out    strings.Builder
	failed bool
}

// want says that something must be so that the proof can be written.
func (w *writer) want(ok bool) bool {
	w.failed = w.failed || !ok
	return ok
}

func (w *writer) text(text string) {
	w.out.WriteString(text)
}

func (w *writer) proof(p api.Proof) {
	w.text("(\n")
	for _, l := range p.Lemmas {
		w.open(partLemma)
		w.literals(l.Lits)
		for _, d := range l.Derivs {
			w.deriv(d)
		}
		w.text(")\n")
	}
	for _, s := range p.Steps {
		w.open(partStep)
		if w.want(s.Lemma >= -1) && s.Lemma >= 0 {
			w.text(" ")
			w.whole(s.Lemma)
		}
		w.literals(s.Lits)
		w.text(")\n")
	}
	w.open(partFailed)
	w.literals(p.Failed)
	w.text(")\n)")
}

// open begins a line.
func (w *writer) open(part int) {
	w.text("  (" + partWords()[part])
}

func (w *writer) literals(list []int) {
	w.text(" (")
	for i, lit := range list {
		w.gap(i)
		w.whole(lit)
	}
	w.text(")")
}

// gap writes what stands ahead of the thing of that number in a list.
func (w *writer) gap(number int) {
	if number > 0 {
		w.text(" ")
	}
}

func (w *writer) whole(n int) {
	if !w.want(n >= -limit && n <= limit) {
		return
	}
	if n < 0 {
		w.text("(- " + strconv.Itoa(-n) + ")")
		return
	}
	w.text(strconv.Itoa(n))
}

func (w *writer) deriv(d api.Deriv) {
	if !w.want(isKind(d.Kind)) {
		return
	}
	k := w.kinds[d.Kind]
	w.want(k.fits(d))
	w.text(" (" + k.word)
	if k.nodes {
		w.text(" ")
		w.whole(d.A)
		w.text(" ")
		w.whole(d.B)
	}
	if k.up {
		w.facts(d.Up)
	}
	if k.down {
		w.facts(d.Down)
	}
	w.text(")")
}

func (w *writer) facts(list []api.Coef) {
	w.text(" (")
	for i, c := range list {
		w.gap(i)
		w.fact(c)
	}
	w.text(")")
}

func (w *writer) fact(c api.Coef) {
	number, err := num.Spell(c.C)
	if !w.want(isFact(c.Kind)) || !w.want(err == api.OK) {
		return
	}
	w.text("(" + factWords()[c.Kind] + " ")
	w.whole(c.Ref)
	w.text(" " + number + ")")
}
