package arbiter_test

import (
	"strings"
	"testing"

	"arbiter/api"
	"arbiter/arbiter"
)

func TestNumbers(t *testing.T) {
	if api.CmdSetLogic != 1 || api.CmdExit != 22 || api.MaxLevels != 1000 || api.MaxTerms != 100000 || api.MaxAtoms != 100000 || api.MaxForms != 300000 {
		t.Error("P0.8: a name of api has another number")
	}
}

type run struct{ text, want string }

func runAll(t *testing.T, promise string, list []run) {
	t.Helper()
	for _, c := range list {
		if got := arbiter.Run(c.text); got != c.want {
			t.Errorf("%s: Run(%s) = %q, want %q", promise, c.text, got, c.want)
		}
		looksOver(t, c.text)
	}
}

func TestExamples(t *testing.T) {
	runAll(t, "DOC, P18.1", []run{
		{"", ""},
		{" ; nothing", ""},
		{"(declare-const x Real)(assert (< x 1.0))(assert (> x 1))(check-sat)", "unsat\n"},
		{"(declare-const x Real)(assert (= (* 3 x) 1))(check-sat)(get-value (x (+ x 1)))", "sat\n((x (/ 1.0 3.0)) ((+ x 1.0) (/ 4.0 3.0)))\n"},
		{"(set-logic QF_UF)(declare-sort U 0)(declare-fun f (U) U)(declare-const a U)\n(assert (= (f (f (f a))) a))(assert (= (f (f (f (f (f a))))) a))\n(check-sat)(assert (distinct (f a) a))(check-sat)", "sat\nunsat\n"},
		{"(declare-fun f (Real) Real)(declare-const x Real)(declare-const y Real)\n(assert (! (<= x y) :named up))(assert (! (<= y x) :named down))\n(assert (! (> x 7) :named extra))(assert (! (not (= (f x) (f y))) :named apart))\n(check-sat)(get-unsat-core)", "unsat\n(up down apart)\n"},
		{"(assert (< x 1))", "(error \"unknown symbol at 11\")\n"},
		{"(declare-const p Bool)(push 1)(assert p)(assert (not p))(check-sat)(pop 1)(check-sat)", "unsat\nsat\n"},
		{"(declare-const x Real)(check-sat)(assert (= (* x x) 2))(check-sat)", "sat\n(error \"non-linear term at 44\")\n"},
		{"(echo \"it says \"\"no\"\"\")(get-info :error-behavior)(set-option :verbosity 3)(exit) ) ) |", "\"it says \"\"no\"\"\"\n(:error-behavior immediate-exit)\nunsupported\n"},
		{"(declare-const x Real)(define-fun top ((a Real) (b Real)) Real (ite (< a b) b a))\n(assert (= (top x (- x)) 2))(assert (< x 0))(check-sat)(get-model)", "sat\n(\n  (define-fun x () Real (- 2.0))\n)\n"},
		{"(declare-const p Bool)(declare-const q Bool)(assert (=> p q))(check-sat-assuming (p (not q)))(get-unsat-assumptions)(check-sat)(pop 1)", "unsat\n(p (not q))\nsat\n(error \"wrong mode at 127\")\n"},
		{"(check-sat)(get-model)", "sat\n(\n)\n"},
		{"(get-model)", "(error \"wrong mode at 0\")\n"},
		{"(declare-const p Bool)(assert p)(check-sat)(declare-const q Bool)(get-value (p))", "sat\n(error \"wrong mode at 65\")\n"},
		{"(set-option :produce-models false)(get-option :produce-models)(check-sat)(get-model)", "false\nsat\n(error \"wrong mode at 73\")\n"},
		{"(push 2)(get-info :assertion-stack-levels)(pop 1)(get-info :assertion-stack-levels)", "(:assertion-stack-levels 2)\n(:assertion-stack-levels 1)\n"},
		{"(assert true)(assert (! false :named |no way|))(check-sat)(get-unsat-core)(get-assertions)", "unsat\n(|no way|)\n(true false)\n"},
		{"(echo \"a\" )x(echo \"b\")", "\"a\"\n(error \"syntax error at 11\")\n"},
	})
	out := arbiter.Run("(declare-sort U 0)(declare-const a U)(check-sat)(get-value (a))")
	if !strings.HasPrefix(out, "sat\n((a (as @") || !strings.HasSuffix(out, " U)))\n") {
		t.Errorf("P18.8: %q", out)
	}
}

// TestClasses: each class, by each error that has it.
func TestClasses(t *testing.T) {
	x := "(declare-const x Real)"
	runAll(t, "P18.2", []run{
		{"(assert '", "(error \"lexical error at 8\")\n"},
		{"(assert \xff", "(error \"lexical error at 8\")\n"},
		{"(assert #y)", "(error \"lexical error at 9\")\n"},
		{"(assert 007)", "(error \"lexical error at 9\")\n"},
		{"(assert \"x", "(error \"lexical error at 8\")\n"},
		{"(assert |x", "(error \"lexical error at 8\")\n"},
		{"(assert :)", "(error \"lexical error at 9\")\n"},
		{"(check-sat))", "sat\n(error \"syntax error at 11\")\n"},
		{"(assert true", "(error \"syntax error at 0\")\n"},
		{"(assert)", "(error \"syntax error at 0\")\n"},
		{"()", "(error \"syntax error at 0\")\n"},
		{"(assert x)", "(error \"unknown symbol at 8\")\n"},
		{"(declare-const x U)", "(error \"unknown symbol at 17\")\n"},
		{x + "(declare-const x Real)", "(error \"redeclaration at 37\")\n"},
		{"(declare-const and Bool)", "(error \"reserved symbol at 15\")\n"},
		{"(assert 1)", "(error \"sort mismatch at 8\")\n"},
		{x + "(assert (= x true))", "(error \"sort mismatch at 30\")\n"},
		{x + "(assert (< (* x x) 1))", "(error \"non-linear term at 33\")\n"},
		{x + "(assert (< (/ x 0) 1))", "(error \"non-linear term at 33\")\n"},
		{"(get-assignment)", "(error \"unsupported command at 0\")\n"},
		{"(set-logic QF_BV)", "(error \"unsupported command at 11\")\n"},
		{"(foo)", "(error \"unsupported command at 0\")\n"},
		{"(check-sat)(set-logic ALL)", "sat\n(error \"wrong mode at 11\")\n"},
		{"(pop 1)", "(error \"wrong mode at 0\")\n"},
		{"(push 1001)", "(error \"limit exceeded at 0\")\n"},
		{"(push 1000)(check-sat)(push 1)", "sat\n(error \"limit exceeded at 22\")\n"},
	})
}

// TestModes: which command leaves which mode: behind it a structure can be asked for just in the mode sat, a core in unsat, an option set in start.
func TestModes(t *testing.T) {
	model, proof, option := "(get-model)", "(get-unsat-core)", "(set-option :produce-proofs true)"
	refused := func(text string) string {
		out := arbiter.Run(text)
		return out[strings.LastIndex(out[:len(out)-1], "\n")+1:]
	}
	starts := map[string]string{"start": "", "assert": "(assert true)", "sat": "(check-sat)", "unsat": "(push 1)(assert false)(check-sat)"}
	for _, c := range []struct{ command, after string }{
		{"(set-info :k v)", ""}, {"(get-info :name)", ""}, {"(get-option :x)", ""}, {"(echo \"a\")", ""}, {"(set-option :x 1)", ""}, {"(set-option :print-success false)", ""}, {"(get-assertions)", ""},
		{"(define-fun d () Bool true)", ""}, {"(define-sort D () Real)", ""}, {"(define-const d Real 1)", ""},
		{"(declare-sort U 0)", "assert"}, {"(declare-const c Real)", "assert"}, {"(declare-fun f (Real) Real)", "assert"}, {"(assert true)", "assert"}, {"(push 0)", "assert"}, {"(push 2)", "assert"}, {"(pop 0)", "assert"}, {"(reset-assertions)", "assert"},
		{"(reset)", "start"}, {"(reset)(set-logic ALL)", "assert"}, {"(check-sat-assuming (true))", "check"}, {"(check-sat-assuming (false))", "unsat"},
	} {
		for mode, text := range starts {
			after := c.after
			if after == "" {
				after = mode
			}
			if after == "check" {
				after = map[bool]string{true: "unsat", false: "sat"}[mode == "unsat"]
			}
			text += c.command
			for ask, wanted := range map[string]string{model: "sat", proof: "unsat", option: "start"} {
				out := text + ask
				isWrong := strings.HasPrefix(refused(out+"(echo \"end\")"), "(error \"wrong mode at ")
				if isWrong == (after == wanted) {
					t.Errorf("P18.3 to P18.9: %s: %q, but the mode is %s", out, arbiter.Run(out), after)
				}
				looksOver(t, out)
			}
		}
	}
	runAll(t, "P18.4", []run{{"(set-logic ALL)" + option, "(error \"wrong mode at 15\")\n"}})
}

func TestOptions(t *testing.T) {
	var list []run
	for _, name := range []string{"produce-models", "produce-unsat-cores", "produce-unsat-assumptions", "produce-proofs"} {
		get := "(get-option :" + name + ")"
		set := func(value string) string { return "(set-option :" + name + " " + value + ")" }
		list = append(list,
			run{get + set("false") + get + set("true") + get, "true\nfalse\ntrue\n"},
			run{set("1") + set("\"true\"") + set("(true)") + get + set("|false|") + get, "unsupported\nunsupported\nunsupported\ntrue\nfalse\n"},
			run{set("false") + "(assert true)" + get + set("maybe") + "(reset)" + get + set("false") + get, "false\nunsupported\ntrue\nfalse\n"},
			run{set("false") + "(reset-assertions)" + get + "(check-sat)" + get, "false\nsat\nfalse\n"},
			run{"(push 0)" + set("true"), "(error \"wrong mode at 8\")\n"},
		)
	}
	get := "(get-option :print-success)"
	list = append(list,
		run{get + "(set-option :print-success true)" + get + "(check-sat)(set-option :print-success false)" + get + "(set-option :print-success true)", "false\nunsupported\nfalse\nsat\nfalse\nunsupported\n"},
		run{"(set-option :verbosity 3)(get-option :verbosity)(check-sat)(set-option :verbosity 3)", "unsupported\nunsupported\nsat\nunsupported\n"},
		run{"(set-option :produce-proofs false)(assert false)(check-sat)(get-unsat-core)(get-proof)", "unsat\n()\n(error \"wrong mode at 75\")\n"},
		run{"(set-option :produce-unsat-cores false)(assert false)(check-sat-assuming (true))(get-unsat-assumptions)(get-unsat-core)", "unsat\n()\n(error \"wrong mode at 103\")\n"},
		run{"(set-option :produce-unsat-assumptions false)(assert false)(check-sat-assuming (true))(get-unsat-core)(get-unsat-assumptions)", "unsat\n()\n(error \"wrong mode at 102\")\n"},
		run{"(set-option :produce-models false)(check-sat)(get-value (true))", "sat\n(error \"wrong mode at 45\")\n"},
	)
	runAll(t, "P18.4", list)
}

func TestInfos(t *testing.T) {
	runAll(t, "P18.5", []run{
		{"(get-info :name)(get-info :version)(get-info :error-behavior)(get-info :assertion-stack-levels)(get-info :authors)(get-info :reason-unknown)", "(:name \"arbiter\")\n(:version \"1.0\")\n(:error-behavior immediate-exit)\n(:assertion-stack-levels 0)\nunsupported\nunsupported\n"},
		{"(push 1000)(get-info :assertion-stack-levels)(pop 999)(get-info :assertion-stack-levels)(reset-assertions)(get-info :assertion-stack-levels)", "(:assertion-stack-levels 1000)\n(:assertion-stack-levels 1)\n(:assertion-stack-levels 0)\n"},
		{"(echo \"\")(echo \"a\nb \"\"c\"\"\")(echo \"é|;)(\")", "\"\"\n\"a\nb \"\"c\"\"\"\n\"é|;)(\"\n"},
	})
}

func TestLevelsByHand(t *testing.T) {
	runAll(t, "P18.3, P18.6, P18.10", []run{
		{"(declare-const p Bool)(push 1)(declare-const q Bool)(assert q)(push 1)(assert p)(get-assertions)(pop 1)(get-assertions)(pop 1)(get-assertions)", "(q p)\n(q)\n()\n"},
		{"(declare-const p Bool)(push 1)(declare-const q Bool)(assert (and p q))(check-sat)(get-model)(pop 1)(assert p)(check-sat)(get-model)", "sat\n(\n  (define-fun p () Bool true)\n  (define-fun q () Bool true)\n)\nsat\n(\n  (define-fun p () Bool true)\n)\n"},
		{"(push 1)(declare-const p Bool)(assert p)(pop 1)(declare-const p Real)(assert (= p 3))(check-sat)(get-model)", "sat\n(\n  (define-fun p () Real 3.0)\n)\n"},
		{"(declare-const p Bool)(assert p)(reset-assertions)(declare-const p Real)(get-assertions)(check-sat)(get-value (p))", "()\nsat\n((p 0.0))\n"},
		{"(declare-const p Bool)(assert p)(push 3)(reset)(set-logic QF_UF)(get-assertions)(get-info :assertion-stack-levels)(check-sat)(get-model)", "()\n(:assertion-stack-levels 0)\nsat\n(\n)\n"},
		{"(assert (! false :named a))(push 1)(assert (! false :named b))(pop 1)(check-sat)(get-unsat-core)(reset)(assert (! true :named a))(check-sat)", "unsat\n(a)\nsat\n"},
		{"(declare-const p Bool)(assert (= (not p) (not p)))(get-assertions)(declare-const $0 Bool)", "((let (($0 (not p))) (= $0 $0)))\n"},
		{"(declare-const $0 Bool)(define-fun d ((a Bool)) Bool (= (not a) (not a) $0))(assert (d true))(get-assertions)(assert (let ((x (+ 1 2))) (= x 3)))(get-assertions)", "((let (($1 (not true))) (= $1 $1 $0)))\n((let (($1 (not true))) (= $1 $1 $0)) (= 3.0 3.0))\n"},
		{"(declare-sort |a sort| 0)(declare-const |a b| |a sort|)(declare-fun |let| (|a sort|) Real)(assert (< (|let| |a b|) 0))(get-assertions)", "((< (|let| |a b|) 0.0))\n"},
	})
}

// TestCores: of labels and of terms assumed just those are told that are needed.
func TestCores(t *testing.T) {
	pq := "(declare-const p Bool)(declare-const q Bool)(declare-const x Real)"
	runAll(t, "P18.9, P0.16", []run{
		{pq + "(assert (! p :named a))(assert (not p))(check-sat)(get-unsat-core)", "unsat\n(a)\n"},
		{pq + "(assert p)(assert (! p :named a))(assert (not p))(check-sat)(get-unsat-core)", "unsat\n()\n"},
		{pq + "(assert (! q :named a))(assert (! p :named b))(assert (! (not p) :named c))(check-sat)(get-unsat-core)", "unsat\n(b c)\n"},
		{pq + "(assert (! q :named a))(assert (! p :named b))(check-sat-assuming ((not p)))(get-unsat-core)(get-unsat-assumptions)", "unsat\n(b)\n((not p))\n"},
		{pq + "(assert (! q :named a))(check-sat-assuming (p (not p) p))(get-unsat-core)(get-unsat-assumptions)", "unsat\n()\n(p (not p))\n"},
		{pq + "(assert false)(check-sat-assuming (p q))(get-unsat-assumptions)", "unsat\n()\n"},
		{pq + "(check-sat-assuming (q (not (< x 1)) p (< x 1)))(get-unsat-assumptions)", "unsat\n((not (< x 1.0)) (< x 1.0))\n"},
		{pq + "(check-sat-assuming (false))(get-unsat-assumptions)(check-sat)(get-proof)", "unsat\n(false)\nsat\n(error \"wrong mode at 128\")\n"},
		{"(assert false)(check-sat)(get-unsat-assumptions)", "unsat\n(error \"wrong mode at 25\")\n"},
		{"(assert false)(check-sat-assuming ())(get-unsat-assumptions)", "unsat\n()\n"},
		{"(check-sat-assuming ())(get-unsat-assumptions)", "sat\n(error \"wrong mode at 23\")\n"},
		{pq + "(assert (! (< x 0) :named |a b|))(assert (! (> x 0) :named |let|))(check-sat)(get-unsat-core)", "unsat\n(|a b| |let|)\n"},
	})
	// One of the two labels of the same term is enough, whichever.
	for _, c := range []string{
		"(assert (! p :named a))(assert (! p :named b))(assert (! (not p) :named c))(check-sat)(get-unsat-core)",
		"(assert (! (or p q) :named a))(assert (! (not q) :named b))(assert (! (not p) :named c))(assert (! (not (or p q)) :named d))(check-sat)(get-unsat-core)(get-proof)(get-unsat-core)",
	} {
		looksOver(t, pq+c)
	}
}

// TestShares: get-model and get-value behind one check tell of one structure, however often they are asked.
func TestShares(t *testing.T) {
	text := "(declare-sort U 0)(declare-fun f (U Real) U)(declare-const a U)(declare-const x Real)(declare-fun g (U) Bool)(assert (distinct a (f a x) (f a (+ x 1))))(assert (g (f a x)))(assert (not (g a)))(check-sat)(get-model)(get-value (a x (f a x) (f a (+ x 1)) (g (f a 17)) (ite (g a) 1 (- x))))(get-assertions)(get-model)(get-value ((f (f a x) x)))"
	looksOver(t, text)
	if arbiter.Run(text) != arbiter.Run(text) {
		t.Error("P0.5: two answers")
	}
}
