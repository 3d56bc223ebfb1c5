package arbiter_test

import (
	"strconv"
	"strings"
	"testing"

	"arbiter/arbiter"
)

func numbered(n int, of func(i string) string) string {
	var b strings.Builder
	for i := range n {
		b.WriteString(of(strconv.Itoa(i)))
	}
	return b.String()
}

func constants(sort string, n int) string {
	return numbered(n, func(i string) string { return "(declare-const x" + i + " " + sort + ")" })
}

func names(n int) string {
	return numbered(n, func(i string) string { return " x" + i })
}

// TestLimits: a goal with as many atoms as there may be is decided, one with more is refused where the check is.
func TestLimits(t *testing.T) {
	u := "(declare-sort U 0)"
	if got := arbiter.Run(u + constants("U", 440) + "(assert (distinct" + names(440) + "))(check-sat)"); got != "sat\n" {
		t.Errorf("P0.12: %q", got)
	}
	text := u + constants("U", 450) + "(echo \"a\")(push 1)(assert (distinct" + names(450) + "))"
	place := strconv.Itoa(len(text))
	if got := arbiter.Run(text + "(check-sat)(pop 1)(check-sat)"); got != "\"a\"\n(error \"limit exceeded at "+place+"\")\n" {
		t.Errorf("P18.6: %q", got)
	}
	if got := arbiter.Run(text + "(check-sat-assuming (true))"); got != "\"a\"\n(error \"limit exceeded at "+place+"\")\n" {
		t.Errorf("P18.6: %q", got)
	}
	if got := arbiter.Run(text + "(pop 1)(check-sat)"); got != "\"a\"\nsat\n" {
		t.Errorf("P18.6: %q", got)
	}
	terms := "(declare-fun f (Real) Real)(assert (= 0" + numbered(99990, func(i string) string { return " " + i + ".5" }) + "))(check-sat)"
	if got := arbiter.Run(terms + "(assert (= 1 2 3 4 5 6 7 8 9 10 11 12))"); got != "unsat\n(error \"limit exceeded at "+strconv.Itoa(len(terms)+len("(assert (= 1 2 3 4 5 6 7 8 "))+"\")\n" {
		t.Errorf("P0.13: %q", got[:min(len(got), 80)])
	}
}

// TestDeep: texts nest as deep as they are long.
func TestDeep(t *testing.T) {
	u := "(declare-sort U 0)(declare-fun f (U) U)(declare-const a U)(declare-const p Bool)(declare-const q Bool)"
	nest := func(open, inner string, n int) string {
		return strings.Repeat(open, n) + inner + strings.Repeat(")", n)
	}
	for text, want := range map[string]string{
		u + "(assert (distinct a " + nest("(f ", "a", 20000) + "))(check-sat)":                           "sat\n",
		u + "(assert (= a (f a)))(assert (distinct a " + nest("(f ", "a", 2000) + "))(check-sat)":        "unsat\n",
		u + "(assert " + nest("(not ", "p", 20001) + ")(assert p)(check-sat)":                            "unsat\n",
		u + "(assert " + nest("(and p ", "q", 10000) + ")(check-sat)(get-value (q))":                     "sat\n((q true))\n",
		u + "(assert " + nest("(let ((q (not q))) ", "(xor p q)", 5000) + ")(assert (= p q))(check-sat)": "unsat\n",
		strings.Repeat("(", 100000): "(error \"syntax error at 0\")\n",
		nest("(", "", 100000):       "(error \"syntax error at 1\")\n",
		"(declare-const x Real)(assert (< " + nest("(+ x ", "1", 5000) + " 1))(assert (>= x 0))(check-sat)(get-unsat-core)": "unsat\n()\n",
		"(declare-const x Real)(assert (= x " + nest("(* 2 ", "(+ x 1)", 2000) + "))(assert (> x (- 1)))(check-sat)":        "unsat\n",
	} {
		if got := arbiter.Run(text); got != want {
			t.Errorf("P0.7: %s..: %q, want %q", text[:min(len(text), 200)], got, want)
		}
	}
}

// TestMany: long scripts, of many checks, labels, levels, values.
func TestMany(t *testing.T) {
	p := "(declare-const p Bool)"
	if got := arbiter.Run(p + numbered(2000, func(i string) string { return "(push 1)(assert (not p))(check-sat)(pop 1)" })); got != strings.Repeat("sat\n", 2000) {
		t.Error("P0.15: many levels")
	}
	cycle := constants("Real", 60) + numbered(60, func(i string) string {
		n, _ := strconv.Atoi(i)
		return "(assert (! (< x" + i + " x" + strconv.Itoa((n+1)%60) + ") :named a" + i + "))(assert (! (> x" + i + " 0) :named b" + i + "))"
	})
	if got, want := arbiter.Run(cycle+"(check-sat)(get-unsat-core)"), "unsat\n("+strings.TrimSpace(numbered(60, func(i string) string { return " a" + i }))+")\n"; got != want {
		t.Errorf("P18.9: %q, want %q", got, want)
	}
	row := constants("Real", 3000) + numbered(3000, func(i string) string { return "(assert (= x" + i + " " + i + "))" })
	got := arbiter.Run(row + "(check-sat)(get-assertions)(get-value (" + strings.TrimSpace(names(3000)) + "))")
	if want := "((x0 0.0) (x1 1.0) (x2 2.0)"; !strings.Contains(got, want) || !strings.HasSuffix(got, "(x2999 2999.0))\n") || !strings.Contains(got, " (= x2999 2999.0))\n") {
		t.Errorf("P18.8, P18.10: %q", got[max(0, len(got)-100):])
	}
}

// TestHard: goals whose search is longer.
func TestHard(t *testing.T) {
	u := "(declare-sort U 0)"
	diamonds := u + constants("U", 9) + numbered(8, func(i string) string {
		n, _ := strconv.Atoi(i)
		next := strconv.Itoa(n + 1)
		return "(declare-const y" + i + " U)(declare-const z" + i + " U)(assert (or (and (= x" + i + " y" + i + ") (= y" + i + " x" + next + ")) (and (= x" + i + " z" + i + ") (= z" + i + " x" + next + "))))"
	})
	pigeons := constants("Real", 6) + numbered(6, func(i string) string {
		return "(assert (or" + numbered(5, func(j string) string { return " (= x" + i + " " + j + ")" }) + "))"
	})
	for text, want := range map[string]string{
		diamonds + "(assert (distinct x0 x8))(check-sat)":          "unsat\n",
		diamonds + "(assert (distinct x0 x8 y7))(check-sat)":       "unsat\n",
		diamonds + "(assert (= x0 x8))(check-sat)":                 "sat\n",
		pigeons + "(assert (distinct" + names(6) + "))(check-sat)": "unsat\n",
		pigeons + "(assert (distinct" + names(5) + "))(check-sat)": "sat\n",
	} {
		if got := arbiter.Run(text); got != want {
			t.Errorf("P0.10, P0.12: %s: %q, want %q", text, got, want)
		}
		looksOver(t, text)
	}
}
