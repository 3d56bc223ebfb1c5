package arbiter_test

import (
	"slices"
	"strconv"
	"strings"
	"testing"

	"arbiter/api"
	"arbiter/arbiter"
	"arbiter/decide"
	"arbiter/prep"
	"arbiter/proof"
	"arbiter/scan"
	"arbiter/script"
	"arbiter/sexp"
	"arbiter/term"
	"arbiter/world"
)

// This file says by the chapter's words, without regard to time, what each command of a script is to answer.

type stated struct {
	term  int
	label string
}

type stage struct {
	funs    []int
	asserts []stated
}

// plain is a script that is looked over, command by command.
type plain struct {
	*testing.T
	text    string
	s       api.Script
	mode    string
	options map[string]bool
	levels  []stage
	demands []int      // of the last check
	assumed []int      // those of them that are assumed
	assume  bool       // whether it was check-sat-assuming
	model   *api.Model // its structure, a table for each function of the script, if it is sat and can be asked for
	before  string     // all responses so far
	asks    bool       // whether what is behind a check is asked for of a second session
}

func classOf(err api.Errno) string {
	return map[api.Errno]string{
		api.ErrByte: "lexical error", api.ErrUtf8: "lexical error", api.ErrNumber: "lexical error", api.ErrGlued: "lexical error", api.ErrString: "lexical error", api.ErrQuoted: "lexical error", api.ErrKeyword: "lexical error",
		api.ErrClose: "syntax error", api.ErrOpen: "syntax error", api.ErrSyntax: "syntax error",
		api.ErrUnknown: "unknown symbol", api.ErrAgain: "redeclaration", api.ErrReserved: "reserved symbol", api.ErrSort: "sort mismatch",
		api.ErrLinear: "non-linear term", api.ErrZero: "non-linear term", api.ErrCommand: "unsupported command", api.ErrMode: "wrong mode", api.ErrLimit: "limit exceeded",
	}[err]
}

func errorLine(err api.Errno, place int) string {
	return "(error \"" + classOf(err) + " at " + strconv.Itoa(place) + "\")\n"
}

func initial() map[string]bool {
	return map[string]bool{"produce-models": true, "produce-unsat-cores": true, "produce-unsat-assumptions": true, "produce-proofs": true, "print-success": false}
}

// looksOver runs a text and looks over all that it answers; it tells whether there was no error.
func looksOver(t *testing.T, text string) bool {
	t.Helper()
	s, err, place := script.Parse(text)
	p := &plain{T: t, text: text, s: s, mode: "start", options: initial(), levels: []stage{{}}, asks: true}
	session := arbiter.New()
	at := 0
	for i, c := range s.Cmds {
		end := p.end(i)
		response := session.Feed(text[at:end])
		at = end
		if c.Kind == api.CmdExit {
			p.want(c, response, "")
			if rest := session.Feed("(echo \"x\")") + session.End(); rest != "" {
				t.Errorf("P18.12: behind exit: %q", rest)
			}
			return true
		}
		if refused := p.command(c, response); refused != api.OK {
			p.want(c, response, errorLine(refused, c.At))
			if rest := session.Feed(text[at:]) + session.Feed("(echo \"x\")") + session.End(); rest != "" {
				t.Errorf("P18.12: %s: behind an error: %q", text, rest)
			}
			p.before += response
			p.whole()
			return false
		}
		p.before += response
	}
	rest, want := session.Feed(text[at:])+session.End(), ""
	if err != api.OK {
		want = errorLine(err, place)
	}
	if rest != want {
		t.Errorf("P0.13: %s: the rest is %q, want %q", text, rest, want)
	}
	p.before += rest
	p.whole()
	return err == api.OK
}

// whole holds the responses to all commands against Run.
func (p *plain) whole() {
	p.Helper()
	if got := arbiter.Run(p.text); got != p.before {
		p.Errorf("P18.12: Run(%s) = %q, in pieces %q", p.text, got, p.before)
	}
}

// end tells where the list of a command ends.
func (p *plain) end(i int) int {
	nodes, _, _ := sexp.Read(p.text)
	for at := 0; at < len(nodes); at += nodes[at].Size {
		if nodes[at].At == p.s.Cmds[i].At {
			return nodes[at].End
		}
	}
	p.Fatalf("a command that is not there")
	return 0
}

func (p *plain) want(c api.Cmd, got, want string) {
	p.Helper()
	if got != want {
		p.Errorf("P18: the command %v at %d of %s answers %q, want %q", c, c.At, p.text, got, want)
	}
}

// command looks over the response to a command, but tells the error if it is to be refused.
func (p *plain) command(c api.Cmd, got string) api.Errno {
	p.Helper()
	top := &p.levels[len(p.levels)-1]
	switch c.Kind {
	case api.CmdSetOption:
		return p.setOption(c, got)
	case api.CmdSetInfo:
		p.want(c, got, "")
		return api.OK
	case api.CmdGetInfo, api.CmdGetOption, api.CmdEcho, api.CmdAssertions:
		p.want(c, got, p.told(c)+"\n")
		return api.OK
	case api.CmdCheck, api.CmdAssuming:
		return p.check(c, got)
	case api.CmdModel, api.CmdValue, api.CmdCore, api.CmdFailed, api.CmdProof:
		return p.asked(c, got)
	case api.CmdFun:
		top.funs = append(top.funs, c.N)
	case api.CmdAssert:
		top.asserts = append(top.asserts, stated{c.Terms[0], c.Name})
	case api.CmdPush:
		p.levels = append(p.levels, make([]stage, c.N)...)
	case api.CmdPop:
		p.levels = p.levels[:len(p.levels)-c.N]
	case api.CmdReset, api.CmdResetAssert:
		p.levels = []stage{{}}
		if c.Kind == api.CmdReset {
			p.options = initial()
		}
	}
	p.want(c, got, "")
	p.mode = "assert"
	if c.Kind == api.CmdReset {
		p.mode = "start"
	}
	return api.OK
}

func (p *plain) setOption(c api.Cmd, got string) api.Errno {
	p.Helper()
	_, known := p.options[c.Name]
	switch {
	case c.Name == "print-success" && c.Text == "false":
		p.want(c, got, "")
	case !known || c.Name == "print-success" || c.Text != "true" && c.Text != "false":
		p.want(c, got, "unsupported\n")
	case p.mode != "start":
		return api.ErrMode
	default:
		p.want(c, got, "")
		p.options[c.Name] = c.Text == "true"
	}
	return api.OK
}

// told tells the responses that are settled.
func (p *plain) told(c api.Cmd) string {
	switch c.Kind {
	case api.CmdGetInfo:
		infos := map[string]string{"name": "\"arbiter\"", "version": "\"1.0\"", "error-behavior": "immediate-exit", "assertion-stack-levels": strconv.Itoa(len(p.levels) - 1)}
		if text, ok := infos[c.Name]; ok {
			return "(:" + c.Name + " " + text + ")"
		}
	case api.CmdGetOption:
		if so, ok := p.options[c.Name]; ok {
			return strconv.FormatBool(so)
		}
	case api.CmdEcho:
		text, _ := scan.Literal(c.Name)
		return text
	case api.CmdAssertions:
		var list []string
		for _, a := range p.open() {
			list = append(list, p.spell(a.term))
		}
		return "(" + strings.Join(list, " ") + ")"
	}
	return "unsupported"
}

func (p *plain) open() []stated {
	var list []stated
	for _, l := range p.levels {
		list = append(list, l.asserts...)
	}
	return list
}

func (p *plain) sight() []int {
	var list []int
	for _, l := range p.levels {
		list = append(list, l.funs...)
	}
	return list
}

func (p *plain) spell(t int) string {
	b, roots, _ := term.Compact(p.s.Bank, []int{t})
	text, err := script.Spell(b, roots[0])
	if err != api.OK {
		p.Fatalf("Spell: %d", err)
	}
	return text
}

// can tells whether terms of the script can be true together, once the evidence is looked over.
func (p *plain) can(terms []int) bool {
	p.Helper()
	b, roots, _ := term.Compact(p.s.Bank, terms)
	ok, m, q, err := decide.Terms(b, roots)
	g, _ := prep.Goal(b, roots)
	if at, _ := world.Holds(b, m, roots); ok && at != -1 {
		p.Fatalf("P17.4: %s: the structure", p.text)
	}
	if wrong, _ := proof.Check(g, q); err != api.OK || !ok && wrong != api.OK {
		p.Fatalf("P17.4: %s: %d, %d", p.text, err, wrong)
	}
	return ok
}

func (p *plain) check(c api.Cmd, got string) api.Errno {
	p.Helper()
	p.demands, p.assumed, p.assume, p.model = nil, c.Terms, c.Kind == api.CmdAssuming, nil
	for _, a := range p.open() {
		p.demands = append(p.demands, a.term)
	}
	p.demands = append(p.demands, c.Terms...)
	p.mode = "unsat"
	if p.can(p.demands) {
		p.mode = "sat"
	}
	p.want(c, got, p.mode+"\n")
	if !p.asks {
		return api.OK
	}
	// What can be asked behind it is asked of another session: to ask changes nothing.
	var asks []int
	if p.mode == "sat" {
		asks = []int{api.CmdModel}
	} else {
		asks = []int{api.CmdCore, api.CmdProof, api.CmdFailed}
	}
	i := slices.IndexFunc(p.s.Cmds, func(d api.Cmd) bool { return d.At == c.At })
	for _, kind := range asks {
		p.askAside(i, kind, p.before+got)
	}
	return api.OK
}

// askAside asks for something behind a command, in a script of its own that ends there.
func (p *plain) askAside(i, kind int, before string) {
	p.Helper()
	word := map[int]string{api.CmdModel: "(get-model)", api.CmdCore: "(get-unsat-core)", api.CmdProof: "(get-proof)", api.CmdFailed: "(get-unsat-assumptions)"}[kind]
	text := p.text[:p.end(i)] + word
	all := arbiter.Run(text)
	if !strings.HasPrefix(all, before) {
		p.Fatalf("P18.13: Run(%s) = %q, before it was %q", text, all, before)
	}
	got := all[len(before):]
	c := api.Cmd{Kind: kind, At: p.end(i)}
	if refused := p.asked(c, got); refused != api.OK {
		p.want(c, got, errorLine(refused, c.At))
	}
}

// asked looks over what is asked behind a check.
func (p *plain) asked(c api.Cmd, got string) api.Errno {
	p.Helper()
	option := map[int]string{api.CmdModel: "produce-models", api.CmdValue: "produce-models", api.CmdCore: "produce-unsat-cores", api.CmdProof: "produce-proofs", api.CmdFailed: "produce-unsat-assumptions"}[c.Kind]
	mode := "unsat"
	if c.Kind == api.CmdModel || c.Kind == api.CmdValue {
		mode = "sat"
	}
	if p.mode != mode || !p.options[option] || c.Kind == api.CmdFailed && !p.assume {
		return api.ErrMode
	}
	switch c.Kind {
	case api.CmdModel:
		p.structure(c, got)
	case api.CmdValue:
		p.values(c, got)
	case api.CmdProof:
		p.proof(got)
	case api.CmdCore:
		p.core(got)
	case api.CmdFailed:
		p.failed(got)
	}
	return api.OK
}

func (p *plain) structure(c api.Cmd, got string) {
	p.Helper()
	b := api.Bank{Sorts: p.s.Bank.Sorts}
	for _, f := range p.sight() {
		b.Funs = append(b.Funs, p.s.Bank.Funs[f])
	}
	m, err, at := world.Read(b, got)
	if err != api.OK {
		p.Fatalf("P18.7: %s: the structure %s cannot be read: %d, %d", p.text, got, err, at)
	}
	if again, _ := world.Show(b, m); again != got {
		p.Errorf("P18.7: %s: %q is not as Show writes it: %q", p.text, got, again)
	}
	all := api.Model{Tables: make([]api.Table, len(p.s.Bank.Funs))}
	for i, f := range p.s.Bank.Funs {
		all.Tables[i].Else.Sort = f.Out
		if f.Out == api.SortReal {
			all.Tables[i].Else.R = "0"
		}
	}
	for i, f := range p.sight() {
		all.Tables[f] = m.Tables[i]
	}
	if at, err := world.Holds(p.s.Bank, all, p.demands); at != -1 || err != api.OK {
		p.Errorf("P0.11, P18.7: %s: in %s the demand %d is false, %d", p.text, got, at, err)
	}
	if first, _ := world.Show(p.s.Bank, all); p.model != nil {
		if second, _ := world.Show(p.s.Bank, *p.model); first != second {
			p.Errorf("P18.7: %s: two structures behind one check", p.text)
		}
	}
	p.model = &all
}

func (p *plain) values(c api.Cmd, got string) {
	p.Helper()
	var pairs []string
	for _, t := range c.Terms {
		v, _ := world.Eval(p.s.Bank, *p.model, t)
		text, _ := world.Spell(p.s.Bank, v)
		pairs = append(pairs, "("+p.spell(t)+" "+text+")")
	}
	p.want(c, got, "("+strings.Join(pairs, " ")+")\n")
}

func (p *plain) proof(got string) {
	p.Helper()
	q, err, at := proof.Read(got)
	if err != api.OK {
		p.Fatalf("P18.11: %s: the proof %s cannot be read: %d, %d", p.text, got, err, at)
	}
	if again, _ := proof.Show(q); again+"\n" != got {
		p.Errorf("P18.11: %s: %q is not as Show writes it", p.text, got)
	}
	b, roots, _ := term.Compact(p.s.Bank, p.demands)
	g, _ := prep.Goal(b, roots)
	if err, at := proof.Check(g, q); err != api.OK {
		p.Errorf("P0.17, P18.11: %s: the proof %s: %d, %d", p.text, got, err, at)
	}
}

// parted tells the things of a response that is a list, by their spelling.
func (p *plain) parted(got string) []string {
	p.Helper()
	nodes, err, _ := sexp.Read(got)
	if err != api.OK || len(nodes) == 0 || nodes[0].Size != len(nodes) || !strings.HasSuffix(got, ")\n") {
		p.Fatalf("P18.9: %s: %q is no list", p.text, got)
	}
	var list []string
	kids, _ := sexp.Kids(nodes, 0)
	for _, k := range kids {
		list = append(list, got[nodes[k].At:nodes[k].End])
	}
	if got != "("+strings.Join(list, " ")+")\n" {
		p.Errorf("P18.9: %s: %q", p.text, got)
	}
	return list
}

// minimal looks over that the terms that stay and those that are told cannot be true together, but without any one of these can.
func (p *plain) minimal(stay, told []int, got string) {
	p.Helper()
	if p.can(slices.Concat(stay, told)) {
		p.Errorf("P0.16, P18.9: %s: %s can be true", p.text, got)
	}
	for i := range told {
		if !p.can(slices.Concat(stay, told[:i], told[i+1:])) {
			p.Errorf("P0.16, P18.9: %s: of %s the one at %d is not needed", p.text, got, i)
		}
	}
}

func (p *plain) core(got string) {
	p.Helper()
	list := p.parted(got)
	stay := slices.Clone(p.assumed)
	var told []int
	for _, a := range p.open() {
		label, _ := scan.Quote(a.label)
		switch {
		case a.label == "":
			stay = append(stay, a.term)
		case len(list) > 0 && list[0] == label:
			told = append(told, a.term)
			list = list[1:]
		}
	}
	if len(list) > 0 {
		p.Errorf("P18.9: %s: %s has labels that are none, or in another order", p.text, got)
	}
	p.minimal(stay, told, got)
}

func (p *plain) failed(got string) {
	p.Helper()
	list := p.parted(got)
	var stay, told []int
	for _, a := range p.open() {
		stay = append(stay, a.term)
	}
	for _, t := range p.assumed {
		if len(list) > 0 && list[0] == p.spell(t) {
			told = append(told, t)
			list = list[1:]
		}
	}
	slices.Sort(told)
	if len(list) > 0 || len(slices.Compact(slices.Clone(told))) < len(told) {
		p.Errorf("P18.9: %s: %s has terms that were not assumed, or twice, or in another order", p.text, got)
	}
	p.minimal(stay, told, got)
}
