package script_test

import (
	"slices"
	"strings"
	"testing"

	"arbiter/api"
	"arbiter/script"
	"arbiter/term"
)

// bankOf makes a bank and tells what build answers.
func bankOf(build func(b *term.Bank) int) (api.Bank, int) {
	b := term.New()
	t := build(b)
	return b.Export(), t
}

func constants(b *term.Bank, sort int, names ...string) []int {
	var list []int
	for _, name := range names {
		f, _ := b.Fun(name, nil, sort)
		t, _ := b.App(f, nil)
		list = append(list, t)
	}
	return list
}

func op(b *term.Bank, op int, args ...int) int {
	t, _ := b.Op(op, args)
	return t
}

func number(b *term.Bank, text string) int {
	t, _ := b.Num(text)
	return t
}

func TestSpell(t *testing.T) {
	for _, c := range []struct {
		want  string
		build func(b *term.Bank) int
	}{
		{"(let (($0 (= u v))) (and $0 (not $0) (or u $0)))", func(b *term.Bank) int {
			v := constants(b, 0, "u", "v")
			e := op(b, api.OpEq, v[0], v[1])
			return op(b, api.OpAnd, e, op(b, api.OpNot, e), op(b, api.OpOr, v[0], e))
		}},
		{"true", func(b *term.Bank) int { return op(b, api.OpTrue) }}, {"false", func(b *term.Bank) int { return op(b, api.OpFalse) }},
		{"12.0", func(b *term.Bank) int { return number(b, "12") }}, {"(- (/ 1.0 3.0))", func(b *term.Bank) int { return number(b, "-1/3") }}, {"(- 2.0)", func(b *term.Bank) int { return number(b, "-2") }}, {"(/ 5.0 7.0)", func(b *term.Bank) int { return number(b, "5/7") }},
		{"|a b|", func(b *term.Bank) int { return constants(b, 0, "a b")[0] }}, {"||", func(b *term.Bank) int { return constants(b, 0, "")[0] }}, {"|let|", func(b *term.Bank) int { return constants(b, 0, "let")[0] }}, {"|12|", func(b *term.Bank) int { return constants(b, 0, "12")[0] }}, {"true", func(b *term.Bank) int { return constants(b, 0, "true")[0] }},
		{"(|f g| (|f g| x))", func(b *term.Bank) int {
			x := constants(b, 1, "x")[0]
			f, _ := b.Fun("f g", []int{1}, 1)
			y, _ := b.App(f, []int{x})
			z, _ := b.App(f, []int{y})
			return z
		}},
		// Numbers and constants are not shared, however often they stand.
		{"(+ x x 1.0 (- (/ 1.0 2.0)) 1.0 (- (/ 1.0 2.0)))", func(b *term.Bank) int {
			x, one, half := constants(b, 1, "x")[0], number(b, "1"), number(b, "-1/2")
			return op(b, api.OpAdd, x, x, one, half, one, half)
		}},
		// The same term twice as an argument of one term.
		{"(let (($0 (not p))) (and $0 $0))", func(b *term.Bank) int {
			n := op(b, api.OpNot, constants(b, 0, "p")[0])
			return op(b, api.OpAnd, n, n)
		}},
		// Shared terms in shared terms: each behind its arguments; a term that stands twice only because what it stands in does is not shared.
		{"(let (($0 (or (not p) q))) (let (($1 (and $0 $0))) (= $1 $1)))", func(b *term.Bank) int {
			v := constants(b, 0, "p", "q")
			o := op(b, api.OpOr, op(b, api.OpNot, v[0]), v[1])
			a := op(b, api.OpAnd, o, o)
			return op(b, api.OpEq, a, a)
		}},
		// The order is that of leaving, not that of the numbers.
		{"(let (($0 (not q))) (let (($1 (not p))) (and $0 $1 $1 $0)))", func(b *term.Bank) int {
			v := constants(b, 0, "p", "q")
			first, second := op(b, api.OpNot, v[0]), op(b, api.OpNot, v[1])
			return op(b, api.OpAnd, second, first, first, second)
		}},
		// What else the bank has plays no part.
		{"(not (not p))", func(b *term.Bank) int {
			p := constants(b, 0, "p")[0]
			n := op(b, api.OpNot, p)
			nn := op(b, api.OpNot, n)
			op(b, api.OpAnd, n, n, nn, nn)
			constants(b, 0, "$0", "a|b")
			return nn
		}},
		{"(let (($1 (not $0))) (let (($3 (not $2))) (= $1 $1 $3 $3)))", func(b *term.Bank) int {
			v := constants(b, 0, "$0", "$2")
			f, s := op(b, api.OpNot, v[0]), op(b, api.OpNot, v[1])
			return op(b, api.OpEq, f, f, s, s)
		}},
		{"(let (($0 (not $00))) (= $0 $0))", func(b *term.Bank) int {
			n := op(b, api.OpNot, constants(b, 0, "$00")[0])
			return op(b, api.OpEq, n, n)
		}},
	} {
		b, n := bankOf(c.build)
		if got, e := script.Spell(b, n); got != c.want || e != api.OK {
			t.Errorf("C7: Spell: %s, %d, want %s", got, e, c.want)
		}
		small, anew, _ := term.Compact(b, []int{n})
		if got, e := script.Spell(small, anew[0]); got != c.want || e != api.OK {
			t.Errorf("C7: Spell, behind Compact: %s, %d, want %s", got, e, c.want)
		}
	}
}

// All operators by their names.
func TestSpellOperators(t *testing.T) {
	text := "(and (not p) (=> p p) (or p p) (xor p p) (= x 1.0) (distinct x 1.0) (ite p p p) (< (+ x 1.0) (- x) (- x 1.0) (* 2.0 x) (/ x 2.0)) (<= x 1.0) (>= x 1.0) (> x 1.0) true false)"
	s, e, _ := look(t, "(declare-const p Bool)(declare-const x Real)(assert "+text+")")
	if e != api.OK {
		t.Fatalf("%d", e)
	}
	if got, e := script.Spell(s.Bank, s.Cmds[2].Terms[0]); got != text || e != api.OK {
		t.Errorf("C7: %s, %d", got, e)
	}
}

func TestSpellErrors(t *testing.T) {
	b, n := bankOf(func(b *term.Bank) int {
		v := constants(b, 0, "p", "a|b", "q\x00")
		op(b, api.OpAnd, v[0], v[1])
		return op(b, api.OpNot, v[0])
	})
	bad := api.Bank{Terms: []api.Term{{Op: 99}}}
	for _, c := range []struct {
		b    api.Bank
		t    int
		want string
		e    api.Errno
	}{
		{b, n, "(not p)", 0}, {b, 0, "p", 0}, {b, 1, "", api.ErrName}, {b, 2, "", api.ErrName}, {b, 3, "", api.ErrName}, {b, -1, "", api.ErrIndex}, {b, 5, "", api.ErrIndex}, {b, 1<<63 - 1, "", api.ErrIndex}, {bad, 0, "", api.ErrOp}, {bad, 7, "", api.ErrOp}, {api.Bank{}, 0, "", api.ErrIndex},
	} {
		if got, e := script.Spell(c.b, c.t); got != c.want || e != c.e {
			t.Errorf("C7: Spell of %d: %q, %d, want %q, %d", c.t, got, e, c.want, c.e)
		}
	}
}

func TestPrint(t *testing.T) {
	for _, c := range []struct{ text, want string }{
		{"", ""},
		{"(declare-const p Bool)(assert (! p :named q))(assert (and p q))", "(declare-const p Bool)\n(assert (! p :named q))\n(assert (and p p))\n"},
		{base, "(set-logic ALL)\n(set-option :o (a b))\n(set-info :i v)\n(set-info :j)\n(get-info :k)\n(get-option :l)\n(declare-sort U 0)\n(declare-sort |V W| 0)\n(declare-const p Bool)\n(declare-fun f (U Bool) U)\n(declare-const a U)\n(assert (! (= (f a p) a) :named one))\n(push 2)\n(declare-const x Real)\n(check-sat)\n(check-sat-assuming (p (< x 1.0)))\n(get-model)\n(get-value (x a p))\n(pop 1)\n(get-unsat-core)\n(get-unsat-assumptions)\n(get-proof)\n(get-assertions)\n(echo \"hi\")\n(reset-assertions)\n(declare-sort U 0)\n(declare-const a U)\n(assert (= a a))\n(reset)\n(set-logic QF_UF)\n(exit)\n"},
		{"(declare-sort |V W| 0)(define-sort D () |V W|)(declare-fun || (D Real Bool) D)(declare-fun |let| () D)(assert (! (= (|| |let| 1 true) |let|) :named |not me|))(check-sat-assuming ())(get-value ((+ 1 2)))(echo \"a\"\"b\")(push 0)", "(declare-sort |V W| 0)\n(declare-fun || (|V W| Real Bool) |V W|)\n(declare-const |let| |V W|)\n(assert (! (= (|| |let| 1.0 true) |let|) :named |not me|))\n(check-sat-assuming ())\n(get-value (3.0))\n(echo \"a\"\"b\")\n(push 0)\n"},
		{"(declare-const $0 Bool)(declare-const q Bool)(assert (let ((z (not q))) (and z z)))(assert (let ((z (not $0))) (and z z)))", "(declare-const $0 Bool)\n(declare-const q Bool)\n(assert (let (($0 (not q))) (and $0 $0)))\n(assert (let (($1 (not $0))) (and $1 $1)))\n"},
		{"(declare-sort U 0)(push 1)(declare-sort V 0)(declare-fun g (U V Bool) Real)(pop 1)(declare-const V Real)(assert (<= V V))", "(declare-sort U 0)\n(push 1)\n(declare-sort V 0)\n(declare-fun g (U V Bool) Real)\n(pop 1)\n(declare-const V Real)\n(assert (<= V V))\n"},
		{"(assert (! true :named l))(define-fun d ((a Bool)) Bool (and a l))(assert (d false))(set-info :n |a b|)(set-info :s \"q\"\"\")", "(assert (! true :named l))\n(assert (and false true))\n(set-info :n |a b|)\n(set-info :s \"q\"\"\")\n"},
	} {
		s, e, _ := look(t, c.text)
		got, f := script.Print(s)
		if e != api.OK || f != api.OK || got != c.want {
			t.Errorf("C9: %q is printed as %q, %d, want %q", c.text, got, f, c.want)
		}
		r, _, _ := script.Parse(got)
		for i, line := range slices.Collect(strings.Lines(got)) {
			if at := r.Cmds[i].At; !strings.HasPrefix(got[at:], line) {
				t.Errorf("C6: the command %d of %q is at %d", i, got, at)
			}
		}
	}
}

// A term that is written with many shared terms is as long as its parts, not as the tree that it is.
func TestSpellShared(t *testing.T) {
	b, n := bankOf(func(b *term.Bank) int {
		n := constants(b, 0, "p")[0]
		for range 30000 {
			n = op(b, api.OpAnd, n, n)
		}
		return n
	})
	text, e := script.Spell(b, n)
	if e != api.OK || !strings.HasPrefix(text, "(let (($0 (and p p))) (let (($1 (and $0 $0))) (let ") || !strings.HasSuffix(text, "(and $29998 $29998)"+strings.Repeat(")", 29999)) {
		t.Fatalf("C7: %d bytes, %d", len(text), e)
	}
	s, e, _ := script.Parse("(declare-const p Bool)(assert " + text + ")")
	if e != api.OK || !sameBank(s.Bank, b) {
		t.Errorf("C12: what is spelled is read as another term: %d", e)
	}
}

func scribbleInts(l []int) {
	l = l[:cap(l)]
	for i := range l {
		l[i] = -9
	}
}

// scribbleScript writes over all of a script, and tells whether two of its lists share memory.
func scribbleScript(s api.Script) bool {
	var lists [][]int
	for _, f := range s.Bank.Funs {
		lists = append(lists, f.Args)
	}
	for _, t := range s.Bank.Terms {
		lists = append(lists, t.Args)
	}
	for _, c := range s.Cmds {
		lists = append(lists, c.Terms)
	}
	shared := false
	for i, l := range lists {
		scribbleInts(l)
		for _, other := range lists[i+1:] {
			shared = shared || slices.Contains(other[:cap(other)], -9)
		}
	}
	for i := range s.Bank.Sorts[:cap(s.Bank.Sorts)] {
		s.Bank.Sorts[:cap(s.Bank.Sorts)][i] = "-"
	}
	clear(s.Bank.Funs[:cap(s.Bank.Funs)])
	clear(s.Bank.Terms[:cap(s.Bank.Terms)])
	clear(s.Cmds[:cap(s.Cmds)])
	return shared
}

func TestMemory(t *testing.T) {
	for _, text := range []string{base, base[:len(base)-7] + "(assert (f", "(get-value (1 2 true))(get-value (2 1))(foo)"} {
		first, e, place := script.Parse(text)
		held := copyOf(first)
		second, _, _ := script.Parse(text)
		if scribbleScript(second) {
			t.Errorf("C10, P0.4: two lists of what Parse(%q) answers share memory", text)
		}
		if third, f, at := script.Parse(text); !sameScript(third, held) || !sameScript(first, held) || e != f || place != at {
			t.Errorf("C10, P0.5: Parse(%q) answers otherwise behind an answer that was written over", text)
		}
		printed, _ := script.Print(first)
		script.Check(first)
		spelt, _ := script.Spell(first.Bank, len(first.Bank.Terms)-1)
		if !sameScript(first, held) {
			t.Errorf("C10: what was handed in is another: %+v", first)
		}
		if again, _ := script.Print(held); again != printed {
			t.Errorf("P0.5: Print answers %q, then %q", printed, again)
		}
		if again, _ := script.Spell(held.Bank, len(held.Bank.Terms)-1); again != spelt {
			t.Errorf("P0.5: Spell answers %q, then %q", spelt, again)
		}
	}
	// Spare room is not written to.
	s, _, _ := script.Parse(base)
	room := append(slices.Clip(s.Cmds), api.Cmd{Kind: 77})
	terms := append(slices.Clip(s.Bank.Terms), api.Term{Op: 77})
	s.Cmds, s.Bank.Terms = room[:len(room)-1], terms[:len(terms)-1]
	script.Print(s)
	script.Spell(s.Bank, 0)
	if room[len(room)-1].Kind != 77 || terms[len(terms)-1].Op != 77 {
		t.Error("P0.4: spare room was written to")
	}
}

// P0.1: structs that make no sense.
func TestNonsense(t *testing.T) {
	far := []int{-1 << 63, -1, 0, 1, 2, 1<<63 - 1}
	for kind := -1; kind < 25; kind++ {
		for _, n := range far {
			s := api.Script{Cmds: []api.Cmd{{Kind: kind, At: n, Name: "a", Text: "b", N: n, Terms: []int{n}}}}
			if e := script.Check(s); e != api.ErrScript {
				t.Errorf("C8: %+v: %d", s, e)
			}
			if text, e := script.Print(s); text != "" || e != api.ErrScript {
				t.Errorf("C9: %+v: %q, %d", s, text, e)
			}
			s.Bank.Funs = []api.Fun{{Args: []int{n}, Out: n}}
			s.Bank.Terms = []api.Term{{Op: kind, Fun: n, Num: "x", Args: []int{n}, Sort: n}}
			script.Check(s)
			script.Spell(s.Bank, n)
		}
	}
}

// P0.8: the numbers that this layer speaks.
func TestNumbersOfApi(t *testing.T) {
	for i, kind := range []int{api.CmdSetLogic, api.CmdSetOption, api.CmdSetInfo, api.CmdGetInfo, api.CmdGetOption, api.CmdSort, api.CmdFun, api.CmdAssert, api.CmdCheck, api.CmdAssuming, api.CmdModel, api.CmdValue, api.CmdCore, api.CmdFailed, api.CmdProof, api.CmdAssertions, api.CmdPush, api.CmdPop, api.CmdReset, api.CmdResetAssert, api.CmdEcho, api.CmdExit} {
		if kind != i+1 {
			t.Errorf("P0.8: a command is %d, want %d", kind, i+1)
		}
	}
	for i, e := range []api.Errno{api.ErrSyntax, api.ErrUnknown, api.ErrAgain, api.ErrReserved, api.ErrCommand, api.ErrMode, api.ErrLimit, api.ErrScript} {
		if int(e) != i+40 {
			t.Errorf("P0.8: an error is %d, want %d", e, i+40)
		}
	}
	if api.MaxLevels != 1000 {
		t.Errorf("P0.8: MaxLevels is %d", api.MaxLevels)
	}
	var _ struct {
		Kind, At   int
		Name, Text string
		N          int
		Terms      []int
	} = api.Cmd{}
	var _ struct {
		Bank api.Bank
		Cmds []api.Cmd
	} = api.Script{}
}
