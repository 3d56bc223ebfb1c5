package script_test

import (
	"slices"
	"strconv"
	"strings"
	"testing"

	"arbiter/api"
	"arbiter/script"
)

func kinds(s api.Script) []int {
	var l []int
	for _, c := range s.Cmds {
		l = append(l, c.Kind)
	}
	return l
}

// places holds a script's first violation: what commands are ahead of it, its class and its place.
type places struct {
	text  string
	kinds []int
	e     api.Errno
	at    int
}

func lookAt(t *testing.T, rule string, list []places) {
	t.Helper()
	for _, c := range list {
		s, e, at := look(t, c.text)
		if !slices.Equal(kinds(s), c.kinds) || e != c.e || at != c.at {
			t.Errorf("%s: Parse(%q): kinds %v, %d at %d, want %v, %d at %d", rule, c.text, kinds(s), e, at, c.kinds, c.e, c.at)
		}
	}
}

func TestExamples(t *testing.T) {
	lookAt(t, "the chapter's examples", []places{
		{"(declare-const x Real)(assert (< x 1))", []int{7, 8}, 0, 0},
		{"(assert (= x 1))", nil, api.ErrUnknown, 11},
		{"(declare-const x Real)(assert (= (* x x) 2))", []int{7}, api.ErrLinear, 33},
		{"(define-fun f ((a Real)) Real (+ a a))(assert (= (f 1) 2))", []int{8}, 0, 0},
		{"(declare-fun f (Real) Real)(assert (let ((x 1)(y (f 1))) (= x y)))", []int{7, 8}, 0, 0},
		{"(push 2)(pop 3)", []int{17}, api.ErrMode, 8},
		{"(declare-const p Bool)(assert (! p :named q))(assert (and p q))", []int{7, 8, 8}, 0, 0},
		{"(exit) ) |", []int{22}, 0, 0},
		{"(check-sat))(exit", []int{9}, api.ErrClose, 11},
		{"(assert true) (foo) |", []int{8}, api.ErrCommand, 14},
		{"(declare-sort U 0)(push 1)(declare-const a U)(pop 1)(assert (= a a))", []int{6, 17, 7, 18}, api.ErrUnknown, 63},
		{"(assert (and true))", nil, api.ErrSort, 8},
		{"(declare-const + Real)", nil, api.ErrReserved, 15},
		{"(assert (let ((a true) (a false)) a))", nil, api.ErrAgain, 24},
		{"(assert (f))", nil, api.ErrSyntax, 8},
		{"(assert (exists ((x Real)) true))", nil, api.ErrCommand, 8},
	})
	for _, c := range []struct {
		text  string
		terms []api.Term
		last  int
	}{
		{"(declare-const x Real)(assert (< x 1))", []api.Term{{Op: 4, Sort: 1}, {Op: 3, Num: "1", Sort: 1}, {Op: 18, Args: []int{0, 1}}}, 2},
		{"(define-fun f ((a Real)) Real (+ a a))(assert (= (f 1) 2))", []api.Term{{Op: 3, Num: "2", Sort: 1}, {Op: 10, Args: []int{0, 0}}}, 1},
		{"(declare-fun f (Real) Real)(assert (let ((x 1)(y (f 1))) (= x y)))", []api.Term{{Op: 3, Num: "1", Sort: 1}, {Op: 4, Args: []int{0}, Sort: 1}, {Op: 10, Args: []int{0, 1}}}, 2},
		{"(declare-const p Bool)(assert (! p :named q))(assert (and p q))", []api.Term{{Op: 4}, {Op: 7, Args: []int{0, 0}}}, 1},
	} {
		s, _, _ := script.Parse(c.text)
		if !sameBank(api.Bank{Terms: s.Bank.Terms}, api.Bank{Terms: c.terms}) || !slices.Equal(s.Cmds[len(s.Cmds)-1].Terms, []int{c.last}) {
			t.Errorf("C5: Parse(%q) = %+v", c.text, s)
		}
	}
}

func TestOrderOfReading(t *testing.T) {
	lookAt(t, "C1", []places{
		{"", nil, 0, 0}, {" ; nothing", nil, 0, 0},
		{"(check-sat)(check-sat", []int{9}, api.ErrOpen, 11},
		{"(check-sat)(push x)(check-sat", []int{9}, api.ErrSyntax, 17},
		{"(check-sat)(push x)'", []int{9}, api.ErrSyntax, 17},
		{"(check-sat)'(push x)", []int{9}, api.ErrByte, 11},
		{"(check-sat)(push '", []int{9}, api.ErrByte, 17},
		{"(push 1)(echo \"a)", []int{17}, api.ErrString, 14},
		{"(push 1)|", []int{17}, api.ErrQuoted, 8},
		{"(push 01)", nil, api.ErrGlued, 7}, {"(push 1.)", nil, api.ErrNumber, 8}, {"(push :)", nil, api.ErrKeyword, 7}, {"(push \xff)", nil, api.ErrUtf8, 6},
		{"(exit)(push x)'", []int{22}, 0, 0}, {"(exit)(exit)(", []int{22}, 0, 0}, {"(check-sat)(exit 1)", []int{9}, api.ErrSyntax, 11},
		{"(assert true)(assert x)(assert y)", []int{8}, api.ErrUnknown, 21},
	})
}

func TestWhichCommand(t *testing.T) {
	lookAt(t, "C2", []places{
		{"x", nil, api.ErrSyntax, 0}, {"()", nil, api.ErrSyntax, 0}, {" 5", nil, api.ErrSyntax, 1}, {"\"a\"", nil, api.ErrSyntax, 0}, {"assert", nil, api.ErrSyntax, 0}, {":k", nil, api.ErrSyntax, 0},
		{"(foo)", nil, api.ErrCommand, 0}, {" (|assert| true)", nil, api.ErrCommand, 1}, {"(foo (", nil, api.ErrOpen, 0}, {"(and true true)", nil, api.ErrCommand, 0},
		{"(5)", nil, api.ErrSyntax, 1}, {"( \"s\")", nil, api.ErrSyntax, 2}, {"((assert true))", nil, api.ErrSyntax, 1}, {"(())", nil, api.ErrSyntax, 1}, {"(:k)", nil, api.ErrSyntax, 1}, {"(#b0)", nil, api.ErrSyntax, 1},
		{"(let)", nil, api.ErrSyntax, 1}, {"(! true)", nil, api.ErrSyntax, 1}, {"(as x)", nil, api.ErrSyntax, 1}, {"(par)", nil, api.ErrSyntax, 1}, {"(NUMERAL)", nil, api.ErrSyntax, 1}, {"(_)", nil, api.ErrSyntax, 1},
		{"(get-assignment)", nil, api.ErrCommand, 0}, {" (get-assignment 1 2)", nil, api.ErrCommand, 1}, {"(declare-datatype)", nil, api.ErrCommand, 0}, {"(declare-datatypes () ())", nil, api.ErrCommand, 0}, {"(define-fun-rec f)", nil, api.ErrCommand, 0}, {"(define-funs-rec)", nil, api.ErrCommand, 0},
	})
}

// C3: each command with one thing too few and one too many.
func TestShapes(t *testing.T) {
	whole := map[string]string{"set-logic": "ALL", "set-option": ":k v", "set-info": ":k v", "get-info": ":k", "get-option": ":k", "declare-sort": "U 0", "declare-fun": "f () Bool", "declare-const": "f Bool", "define-fun": "f () Bool true", "define-const": "f Bool true", "define-sort": "U () Bool", "assert": "true", "check-sat": "", "check-sat-assuming": "()", "get-model": "", "get-value": "(true)", "get-unsat-core": "", "get-unsat-assumptions": "", "get-proof": "", "get-assertions": "", "push": "0", "pop": "0", "reset": "", "reset-assertions": "", "echo": "\"a\"", "exit": ""}
	if len(whole) != len(shapes) {
		t.Errorf("%d commands, want %d", len(whole), len(shapes))
	}
	for word, rest := range whole {
		good := " (" + word + " " + rest + ")"
		if _, e, at := look(t, good); e != api.OK || at != 0 {
			t.Errorf("C3: Parse(%q): %d at %d", good, e, at)
		}
		things := strings.Fields(rest)
		for i := range things {
			short := " (" + word + " " + strings.Join(things[:i], " ") + ")"
			if word == "set-info" && i == 1 {
				continue
			}
			if _, e, at := look(t, short); e != api.ErrSyntax || at != 1 {
				t.Errorf("C3: Parse(%q): %d at %d", short, e, at)
			}
		}
		for _, more := range []string{"x", "1 ()", "()"} {
			long := " (" + word + " " + rest + " " + more + ")"
			if _, e, at := look(t, long); e != api.ErrSyntax || at != 1 {
				t.Errorf("C3: Parse(%q): %d at %d", long, e, at)
			}
		}
	}
	lookAt(t, "C3: the shape comes ahead of the things", []places{{"(assert x y)", nil, api.ErrSyntax, 0}, {"(push x x)", nil, api.ErrSyntax, 0}, {"(declare-const 5)", nil, api.ErrSyntax, 0}, {"(set-logic)", nil, api.ErrSyntax, 0}})
}

func TestTextCommands(t *testing.T) {
	lookAt(t, "C4", []places{
		{"(set-logic QF_UFLRA)", []int{1}, 0, 0}, {"(set-logic QF_UF)", []int{1}, 0, 0}, {"(set-logic QF_LRA)", []int{1}, 0, 0}, {"(set-logic |ALL|)", []int{1}, 0, 0},
		{"(set-logic QF_BV)", nil, api.ErrCommand, 11}, {"(set-logic all)", nil, api.ErrCommand, 11}, {"(set-logic 5)", nil, api.ErrSyntax, 11}, {"(set-logic (ALL))", nil, api.ErrSyntax, 11}, {"(set-logic let)", nil, api.ErrSyntax, 11}, {"(set-logic \"ALL\")", nil, api.ErrSyntax, 11},
		{"(set-logic ALL)(set-logic ALL)", []int{1}, api.ErrMode, 15}, {"(check-sat)(set-logic ALL)", []int{9}, api.ErrMode, 11}, {"(check-sat)(set-logic 5)", []int{9}, api.ErrSyntax, 22}, {"(check-sat)(set-logic X)", []int{9}, api.ErrCommand, 22},
		{"(set-option :a b)(set-info :a)(get-info :a)(get-option :a)(echo \"\")(set-logic ALL)", []int{2, 3, 4, 5, 21, 1}, 0, 0},
		{"(define-sort D () Real)(set-logic ALL)", nil, api.ErrMode, 23}, {"(define-const c Real 1)(set-logic ALL)", nil, api.ErrMode, 23}, {"(define-fun c () Real 1)(set-logic ALL)", nil, api.ErrMode, 24}, {"(push 0)(set-logic ALL)", []int{17}, api.ErrMode, 8}, {"(reset-assertions)(set-logic ALL)", []int{20}, api.ErrMode, 18},
		{"(set-logic ALL)(reset)(set-logic ALL)", []int{1, 19, 1}, 0, 0}, {"(define-const c Real 1)(reset)(echo \"\")(set-logic ALL)", []int{19, 21, 1}, 0, 0}, {"(reset)(push 0)(set-logic ALL)", []int{19, 17}, api.ErrMode, 15}, {"(get-assertions)(set-logic ALL)", []int{16}, api.ErrMode, 16},
		{"(set-option x y)", nil, api.ErrSyntax, 12}, {"(set-option :x :y)", nil, api.ErrSyntax, 15}, {"(set-option :x let)", nil, api.ErrSyntax, 15}, {"(set-option 5 :y)", nil, api.ErrSyntax, 12}, {"(set-option :x (:y let))", []int{2}, 0, 0}, {"(set-option :x ())", []int{2}, 0, 0}, {"(set-option :x #b01)", []int{2}, 0, 0},
		{"(set-info x)", nil, api.ErrSyntax, 10}, {"(set-info :x :y)", nil, api.ErrSyntax, 13}, {"(set-info \"x\" y)", nil, api.ErrSyntax, 10}, {"(get-info x)", nil, api.ErrSyntax, 10}, {"(get-option (:x))", nil, api.ErrSyntax, 12}, {"(get-info push)", nil, api.ErrSyntax, 10},
		{"(echo x)", nil, api.ErrSyntax, 6}, {"(echo 5)", nil, api.ErrSyntax, 6}, {"(echo (\"a\"))", nil, api.ErrSyntax, 6},
	})
	s, _, _ := script.Parse("(set-logic ALL)(set-option :k|x y|)(set-info :a \"it says \"\"no\"\"\")(set-info :z (a  #xAF\n(|b| |c d|) :k let))(set-info :b)(get-info :c)(get-option :d)(echo \"e\"\"\")")
	want := []api.Cmd{{Kind: 1, Name: "ALL"}, {Kind: 2, Name: "k", Text: "|x y|"}, {Kind: 3, Name: "a", Text: "\"it says \"\"no\"\"\""}, {Kind: 3, Name: "z", Text: "(a #xaf (b |c d|) :k let)"}, {Kind: 3, Name: "b"}, {Kind: 4, Name: "c"}, {Kind: 5, Name: "d"}, {Kind: 21, Name: "e\""}}
	if !slices.EqualFunc(s.Cmds, want, sameCmd) {
		t.Errorf("C4: the commands are %+v", s.Cmds)
	}
}

func TestDeclarations(t *testing.T) {
	lookAt(t, "C4", []places{
		{"(declare-sort 5 0)", nil, api.ErrSyntax, 14}, {"(declare-sort let 0)", nil, api.ErrSyntax, 14}, {"(declare-sort Bool 0)", nil, api.ErrReserved, 14}, {"(declare-sort Real x)", nil, api.ErrReserved, 14}, {"(declare-sort @U 0)", nil, api.ErrReserved, 14}, {"(declare-sort |.U| 0)", nil, api.ErrReserved, 14}, {"(declare-sort and 0)(declare-sort || 0)(declare-sort |Int| 0)", []int{6, 6, 6}, 0, 0},
		{"(declare-sort U 0)(declare-sort U 0)", []int{6}, api.ErrAgain, 32}, {"(declare-sort U 0)(declare-sort U 1)", []int{6}, api.ErrAgain, 32}, {"(declare-sort U 1)", nil, api.ErrCommand, 16}, {"(declare-sort U 00)", nil, api.ErrGlued, 17}, {"(declare-sort U 0.0)", nil, api.ErrSyntax, 16}, {"(declare-sort U x)", nil, api.ErrSyntax, 16}, {"(declare-sort U (0))", nil, api.ErrSyntax, 16},
		{"(define-sort D () Real)(declare-sort D 0)", nil, api.ErrAgain, 37}, {"(declare-sort D 0)(define-sort D () Real)", []int{6}, api.ErrAgain, 31}, {"(define-sort Real () 5)", nil, api.ErrReserved, 13}, {"(define-sort D 5 Real)", nil, api.ErrSyntax, 15}, {"(define-sort D (x) Real)", nil, api.ErrCommand, 15}, {"(define-sort D (x) 5)", nil, api.ErrCommand, 15}, {"(define-sort D () D)", nil, api.ErrUnknown, 18}, {"(define-sort D () (U))", nil, api.ErrCommand, 18}, {"(define-sort D () 5)", nil, api.ErrSyntax, 18},
		{"(define-sort D () Real)(define-sort E () D)(declare-const x E)(assert (< x 1))", []int{7, 8}, 0, 0}, {"(declare-sort U 0)(declare-const U U)(declare-fun Bool (U) U)(assert (= U (Bool U)))", []int{6, 7, 7, 8}, 0, 0},
		{"(declare-const x (Array Real Real))", nil, api.ErrCommand, 17}, {"(declare-const x ())", nil, api.ErrCommand, 17}, {"(declare-const x Int)", nil, api.ErrUnknown, 17}, {"(declare-const x |Real|)", []int{7}, 0, 0}, {"(declare-const x 1)", nil, api.ErrSyntax, 17}, {"(declare-const x let)", nil, api.ErrSyntax, 17}, {"(declare-const x :k)", nil, api.ErrSyntax, 17}, {"(declare-const x \"Real\")", nil, api.ErrSyntax, 17},
		{"(declare-const 5 5)", nil, api.ErrSyntax, 15}, {"(declare-const @x Real)", nil, api.ErrReserved, 15}, {"(declare-const .x Real)", nil, api.ErrReserved, 15}, {"(declare-const true Real)", nil, api.ErrReserved, 15}, {"(declare-const |<=| Real)", nil, api.ErrReserved, 15}, {"(declare-const || Real)(declare-const let! Real)(declare-const |let| Real)", []int{7, 7, 7}, 0, 0}, {"(declare-const x Real)(declare-fun x (Real) Real)", []int{7}, api.ErrAgain, 35}, {"(declare-const x Real)(declare-const |x| Int)", []int{7}, api.ErrAgain, 37},
		{"(declare-fun f Real Real)", nil, api.ErrSyntax, 15}, {"(declare-fun f (Real x) y)", nil, api.ErrUnknown, 21}, {"(declare-fun f (Real) y)", nil, api.ErrUnknown, 22}, {"(declare-fun f ((Real)) Real)", nil, api.ErrCommand, 16}, {"(declare-fun f (5) Real)", nil, api.ErrSyntax, 16}, {"(declare-fun not (5) 5)", nil, api.ErrReserved, 13}, {"(declare-fun (f) () Real)", nil, api.ErrSyntax, 13},
	})
	for _, op := range opNames {
		text := "(declare-const " + op + " Bool)"
		if _, e, at := look(t, text); e != api.ErrReserved || at != 15 {
			t.Errorf("C4: %s: %d at %d", text, e, at)
		}
	}
	s, _, _ := script.Parse("(declare-sort U 0)(define-sort V () U)(define-fun h ((a V)(b Real)) Bool true)(declare-fun f (V Real Bool) U)(define-fun k ((a V)) V (f a 1 true))(declare-const |a b| V)(declare-sort W 0)(assert (= (k |a b|) |a b|))")
	funs := []api.Fun{{Name: "f", Args: []int{2, 1, 0}, Out: 2}, {Name: "a b", Out: 2}}
	cmds := []api.Cmd{{Kind: 6, N: 2}, {Kind: 7}, {Kind: 7, N: 1}, {Kind: 6, N: 3}, {Kind: 8, Terms: []int{4}}}
	if !sameBank(api.Bank{Sorts: s.Bank.Sorts, Funs: s.Bank.Funs}, api.Bank{Sorts: []string{"U", "W"}, Funs: funs}) || !slices.EqualFunc(s.Cmds, cmds, sameCmd) || s.Bank.Terms[0].Fun != 1 || s.Bank.Terms[3].Fun != 0 {
		t.Errorf("C5: %+v", s)
	}
}

func TestDefinitions(t *testing.T) {
	lookAt(t, "C4", []places{
		{"(define-fun g x Real 1)", nil, api.ErrSyntax, 14}, {"(define-fun g (x) Real 1)", nil, api.ErrSyntax, 15}, {"(define-fun g ((x)) Real 1)", nil, api.ErrSyntax, 15}, {"(define-fun g ((x Real Real)) Real 1)", nil, api.ErrSyntax, 15}, {"(define-fun g (()) Real 1)", nil, api.ErrSyntax, 15},
		{"(define-fun g ((5 Real)) Real 1)", nil, api.ErrSyntax, 16}, {"(define-fun g ((let Real)) Real 1)", nil, api.ErrSyntax, 16}, {"(define-fun g ((and 5)) Real 1)", nil, api.ErrReserved, 16}, {"(define-fun g ((@a Real)) Real 1)", nil, api.ErrReserved, 16}, {"(define-fun g ((x Real)(x 5)) Real x)", nil, api.ErrAgain, 24}, {"(define-fun g ((x Int)(x Real)) Real x)", nil, api.ErrUnknown, 18},
		{"(define-fun g ((x Real)) Int (", nil, api.ErrOpen, 0}, {"(define-fun g ((x Real)) Int y)", nil, api.ErrUnknown, 25}, {"(define-fun g ((x Real)) Bool x)", nil, api.ErrSort, 30}, {"(define-fun g ((x Real)) Real (g x))", nil, api.ErrUnknown, 31}, {"(define-fun g () Real g)", nil, api.ErrUnknown, 22}, {"(define-fun g ((x Real)(y Real)) Real (* x y))", nil, api.ErrLinear, 38},
		{"(define-fun true () Bool false)", nil, api.ErrReserved, 12}, {"(define-fun g () Real 1)(define-fun g () Real 1)", nil, api.ErrAgain, 36}, {"(define-fun g () Real 1)(declare-const g Real)", nil, api.ErrAgain, 39}, {"(declare-const g Real)(define-const g Real 1)", []int{7}, api.ErrAgain, 36}, {"(define-const g Real true)", nil, api.ErrSort, 21}, {"(define-const g Int true)", nil, api.ErrUnknown, 16}, {"(define-const 5 Int true)", nil, api.ErrSyntax, 14},
		{"(define-fun g ((x Real)) Real x)(assert (< g 1))", nil, api.ErrSort, 43}, {"(define-fun g ((x Real)) Real x)(assert (< (g true) 1))", nil, api.ErrSort, 43}, {"(define-fun g ((x Real)) Real x)(assert (< (g 1 1) 1))", nil, api.ErrSort, 43}, {"(define-fun g ((x Real)) Real x)(assert (< (g y 1) 1))", nil, api.ErrUnknown, 46}, {"(define-fun g () Real 1)(assert (< (g 1) 1))", nil, api.ErrSort, 35}, {"(define-fun g () Real 1)(assert (< (g) 1))", nil, api.ErrSyntax, 35},
		{"(define-fun g ((x Real)) Real (* 2 x))(declare-const y Real)(assert (< (* (g 3) y) (* (g y) 2)))", []int{7, 8}, 0, 0}, {"(define-fun g ((x Real)) Real (* 2 x))(declare-const y Real)(assert (< (* (g y) y) 2))", []int{7}, api.ErrLinear, 71},
		{"(declare-const x Real)(define-fun g ((x Bool)) Bool (not x))(assert (g (< x 1)))", []int{7, 8}, 0, 0}, {"(define-fun g ((g Bool)) Bool (not g))(assert (g (g true)))", []int{8}, 0, 0},
		{"(define-fun g ((x Real)) Real x)(assert (< x 1))", nil, api.ErrUnknown, 43},
	})
	// A quotient by 0 cannot come about by a definition: what it divides by is a number already.
	lookAt(t, "C4", []places{{"(define-fun g ((x Real)) Real (/ x 0))", nil, api.ErrZero, 30}, {"(define-fun g ((x Real)) Real (/ 1 x))", nil, api.ErrLinear, 30}})
}

func TestAssertions(t *testing.T) {
	lookAt(t, "C4", []places{
		{"(assert 1)", nil, api.ErrSort, 8}, {"(assert (+ 1 2))", nil, api.ErrSort, 8}, {"(assert (! true :named and))", nil, api.ErrReserved, 23}, {"(assert (! true :named ||))", nil, api.ErrReserved, 23}, {"(assert (! true :named .a))", nil, api.ErrReserved, 23}, {"(assert (! true :named 5))", nil, api.ErrSyntax, 23}, {"(assert (! true :named let))", nil, api.ErrSyntax, 23}, {"(assert (! true :named (a)))", nil, api.ErrSyntax, 23},
		{"(assert (! 1 :named and))", nil, api.ErrSort, 11}, {"(assert (! x :named and))", nil, api.ErrUnknown, 11}, {"(assert (! true :pattern q))", nil, api.ErrCommand, 8}, {"(assert (! true :named))", nil, api.ErrCommand, 8}, {"(assert (! true :named q r))", nil, api.ErrCommand, 8}, {"(assert (! true named q))", nil, api.ErrCommand, 8}, {"(assert (not (! true :named q)))", nil, api.ErrCommand, 13}, {"(assert (! (! true :named a) :named b))", nil, api.ErrCommand, 11}, {"(assert (|!| true :named q))", nil, api.ErrUnknown, 9},
		{"(assert (! true :named q))(assert (! q :named q))", []int{8}, api.ErrAgain, 46}, {"(declare-const q Bool)(assert (! q :named q))", []int{7}, api.ErrAgain, 42}, {"(define-const q Bool true)(assert (! q :named q))", nil, api.ErrAgain, 46}, {"(assert (! true :named q))(declare-const q Bool)", []int{8}, api.ErrAgain, 41}, {"(assert (! true :named q))(define-const q Bool true)", []int{8}, api.ErrAgain, 40},
		{"(assert (! (not q) :named q))", nil, api.ErrUnknown, 16}, {"(assert (! true :named q))(assert (q true))", []int{8}, api.ErrSort, 34}, {"(assert (! true :named q))(assert (q))", []int{8}, api.ErrSyntax, 34}, {"(assert (! true :named |let|))(assert |let|)", []int{8, 8}, 0, 0}, {"(declare-sort q 0)(assert (! true :named q))", []int{6, 8}, 0, 0},
		{"(check-sat-assuming x)", nil, api.ErrSyntax, 20}, {"(check-sat-assuming (1 x))", nil, api.ErrSort, 21}, {"(check-sat-assuming (x 1))", nil, api.ErrUnknown, 21}, {"(check-sat-assuming (true 1 x))", nil, api.ErrSort, 26}, {"(check-sat-assuming ())", []int{10}, 0, 0}, {"(check-sat-assuming (true (not true)))", []int{10}, 0, 0},
		{"(get-value x)", nil, api.ErrSyntax, 11}, {"(get-value ())", nil, api.ErrSyntax, 11}, {"(get-value (1 true x))", nil, api.ErrUnknown, 19}, {"(get-value (1 true 1))", []int{12}, 0, 0}, {"(get-value ((! true :named q)))", nil, api.ErrCommand, 12},
	})
	s, _, _ := script.Parse("(assert (! false :named q))(check-sat-assuming (true q true))(get-value (1 q 2 1))")
	want := []api.Cmd{{Kind: 8, Name: "q", Terms: []int{0}}, {Kind: 10, Terms: []int{1, 0, 1}}, {Kind: 12, Terms: []int{2, 0, 3, 2}}}
	if !slices.EqualFunc(s.Cmds, want, sameCmd) || len(s.Bank.Terms) != 4 {
		t.Errorf("C5: %+v", s)
	}
}

func TestLevels(t *testing.T) {
	lookAt(t, "C4", []places{
		{"(push x)", nil, api.ErrSyntax, 6}, {"(push 1.0)", nil, api.ErrSyntax, 6}, {"(push (1))", nil, api.ErrSyntax, 6}, {"(pop x)", nil, api.ErrSyntax, 5}, {"(push 1001)", nil, api.ErrLimit, 0}, {"(push 1000)", []int{17}, 0, 0}, {"(push 1000)(push 1)", []int{17}, api.ErrLimit, 11}, {"(push 1000)(push 0)(pop 1)(push 1)", []int{17, 17, 18, 17}, 0, 0}, {"(push 600)(pop 100)(push 501)", []int{17, 18}, api.ErrLimit, 19},
		{"(push 9223372036854775807)", nil, api.ErrLimit, 0}, {"(push 99999999999999999999999)", nil, api.ErrLimit, 0}, {"(pop 99999999999999999999)", nil, api.ErrMode, 0}, {"(pop 18446744073709551616)", nil, api.ErrMode, 0}, {"(pop 1)", nil, api.ErrMode, 0}, {"(pop 0)(push 0)", []int{18, 17}, 0, 0}, {"(push 2)(pop 1)(pop 2)", []int{17, 18}, api.ErrMode, 15},
		{"(push 5)(reset)(pop 1)", []int{17, 19}, api.ErrMode, 15}, {"(push 5)(reset-assertions)(pop 1)", []int{17, 20}, api.ErrMode, 26}, {"(push 1000)(reset)(push 1000)", []int{17, 19, 17}, 0, 0},
	})
	known := func(text string, e api.Errno) {
		t.Helper()
		for _, c := range []struct{ declare, use string }{
			{"(declare-const n Bool)", "(assert n)"}, {"(define-const n Bool true)", "(assert n)"}, {"(define-fun n ((x Bool)) Bool x)", "(assert (n true))"}, {"(assert (! true :named n))", "(assert n)"},
			{"(declare-sort n 0)", "(declare-const x n)"}, {"(define-sort n () Real)", "(declare-const x n)"},
		} {
			whole := strings.ReplaceAll(strings.ReplaceAll(text, "D", c.declare), "U", c.use)
			if _, f, _ := look(t, whole); f != e {
				t.Errorf("the known names: Parse(%q): %d, want %d", whole, f, e)
			}
		}
	}
	known("D U", 0)
	known("U", api.ErrUnknown)
	known("D D", api.ErrAgain)
	known("D (push 1) U", 0)
	known("D (push 1) D", api.ErrAgain)
	known("D (push 2)(pop 2) U", 0)
	known("(push 1) D (pop 1) U", api.ErrUnknown)
	known("(push 1) D (pop 1) D U", 0)
	known("(push 1) D (pop 0) U", 0)
	known("(push 1) D (push 1)(pop 1) U", 0)
	known("(push 1) D (push 1)(pop 2) U", api.ErrUnknown)
	known("(push 2) D (pop 1) U", api.ErrUnknown)
	known("(push 1) D (pop 1)(push 1) D (pop 1) D U", 0)
	known("D (reset) U", api.ErrUnknown)
	known("D (reset) D U", 0)
	known("D (reset-assertions) U", api.ErrUnknown)
	known("D (push 3)(reset-assertions) D U", 0)
	s, _, _ := script.Parse("(declare-const x Real)(push 1)(declare-const y Real)(pop 1)(declare-const y Bool)(assert (and y (< x 1)))(reset)(declare-fun x (Bool) Bool)(assert (x true))(push 0)")
	names := []api.Fun{{Name: "x", Out: 1}, {Name: "y", Out: 1}, {Name: "y"}, {Name: "x", Args: []int{0}}}
	if !sameBank(api.Bank{Funs: s.Bank.Funs}, api.Bank{Funs: names}) || s.Bank.Terms[0].Fun != 2 || s.Cmds[1].N != 1 || s.Cmds[7].N != 3 {
		t.Errorf("C5: names that are declared anew: %+v", s)
	}
}

func TestConstants(t *testing.T) {
	for text, want := range map[string][]string{
		"1": {"1"}, "1.50": {"3/2"}, "0.0": {"0"}, "(- 1)": {"-1"}, "(- 0)": {"0"}, "(/ 4 6)": {"2/3"}, "(/ 1.5 0.5)": {"3"}, "(/ 0 5)": {"0"}, "(- (/ 1 3))": {"-1/3"}, "(|-| (|/| 1 3))": {"-1/3"},
		// What is no written constant makes its parts first; the commands need its value alone.
		"(- (- 1))": {"1"}, "(/ (- 1) 2)": {"-1/2"}, "(/ 1 (- 2))": {"-1/2"}, "(- 1 2)": {"-1"}, "(/ 1 2 3)": {"1/6"}, "(+ 1 2)": {"3"}, "(- (/ 1 2 3))": {"-1/6"}, "(* 2 (/ 1 2))": {"1"}, "(- (+ 1 1))": {"-2"}, "(- (/ (- 1) 2))": {"1/2"},
	} {
		s, e, at := look(t, "(get-value ("+text+"))")
		var got []string
		for _, v := range s.Bank.Terms {
			got = append(got, v.Num)
		}
		if e != api.OK || !slices.Equal(got, want) {
			t.Errorf("rule 1: %s: %v, %d at %d", text, got, e, at)
		}
	}
	lookAt(t, "rule 1", []places{{"(get-value ((/ 1 0)))", nil, api.ErrZero, 12}, {"(get-value ((/ 1 0.00)))", nil, api.ErrZero, 12}, {"(get-value ((- (/ 1 0))))", nil, api.ErrZero, 15}, {"(get-value ((- (/ x 0))))", nil, api.ErrUnknown, 18}, {"(get-value ((- true)))", nil, api.ErrSort, 12}, {"(get-value ((- 1 true)))", nil, api.ErrSort, 12}, {"(get-value ((/ 1)))", nil, api.ErrSort, 12}, {"(get-value ((-)))", nil, api.ErrSyntax, 12}, {"(get-value ((/ 0 0)))", nil, api.ErrZero, 12}, {"(get-value ((/ () 1)))", nil, api.ErrSyntax, 15}, {"(get-value ((/ 1 ())))", nil, api.ErrSyntax, 17}, {"(get-value ((- ())))", nil, api.ErrSyntax, 15}})
	// A constant is one term, and nothing else is made: the limit shows it.
	full := "(declare-const p Bool)(assert " + strings.Repeat("(not ", api.MaxTerms-3) + "p" + strings.Repeat(")", api.MaxTerms-3) + ")"
	for text, e := range map[string]api.Errno{"(get-value ((- (/ 7 3)) (- 2.5)))": 0, "(get-value ((/ 7 3) 2.5))": 0, "(get-value ((/ 7 3) 2.5 1))": api.ErrLimit, "(get-value ((- (/ 7 3)) 1 1.0 2))": api.ErrLimit, "(get-value ((/ 1 2 3)))": api.ErrLimit, "(get-value ((- (- 7))))": 0, "(get-value ((+ 1 2)))": api.ErrLimit, "(get-value ((+ 1 1)))": 0} {
		if _, f, _ := script.Parse(full + text); f != e {
			t.Errorf("rule 1: in a bank with room for two terms, %s: %d, want %d", text, f, e)
		}
	}
}

func TestTerms(t *testing.T) {
	const d = "(declare-fun f (Real) Real)(declare-const x Real)(assert (! true :named l))"
	n := len(d) + len("(assert ")
	var list []places
	for _, c := range []struct {
		text string
		e    api.Errno
		at   int
	}{
		{"true", 0, 0}, {"false", 0, 0}, {"|true|", 0, 0}, {"and", api.ErrSort, 0}, {"-", api.ErrSort, 0}, {"f", api.ErrSort, 0}, {"y", api.ErrUnknown, 0}, {"l", 0, 0}, {"x", api.ErrSort, 0},
		{"#xF", api.ErrSort, 0}, {"#b0", api.ErrSort, 0}, {"\"s\"", api.ErrSort, 0}, {":k", api.ErrSyntax, 0}, {"par", api.ErrSyntax, 0}, {"assert", api.ErrSyntax, 0}, {"()", api.ErrSyntax, 0},
		{"(= 1 #xF)", api.ErrSort, 5}, {"(= 1 :k)", api.ErrSyntax, 5}, {"(= 1 let)", api.ErrSyntax, 5}, {"(= 1 ())", api.ErrSyntax, 5},
		{"(! true)", api.ErrCommand, 0}, {"(_ f 1)", api.ErrCommand, 0}, {"(as x Real)", api.ErrCommand, 0}, {"(forall)", api.ErrCommand, 0}, {"(exists 5)", api.ErrCommand, 0}, {"(match x)", api.ErrCommand, 0}, {"(not (as x Real))", api.ErrCommand, 5}, {"((as f Real) 1)", api.ErrSyntax, 1},
		{"(par x)", api.ErrSyntax, 1}, {"(assert true)", api.ErrSyntax, 1}, {"(5 5)", api.ErrSyntax, 1}, {"(\"s\")", api.ErrSyntax, 1}, {"((f) 1)", api.ErrSyntax, 1}, {"(() 1)", api.ErrSyntax, 1}, {"(:k true)", api.ErrSyntax, 1},
		{"(y)", api.ErrSyntax, 0}, {"(f)", api.ErrSyntax, 0}, {"(and)", api.ErrSyntax, 0}, {"(true)", api.ErrSyntax, 0}, {"(not (l))", api.ErrSyntax, 5},
		{"(y z)", api.ErrUnknown, 1}, {"(y 01)", api.ErrGlued, 4}, {"(f y)", api.ErrUnknown, 3}, {"(true y)", api.ErrUnknown, 6}, {"(true true)", api.ErrSort, 0}, {"(l true)", api.ErrSort, 0}, {"(l y)", api.ErrUnknown, 3}, {"(= (f true) (f y))", api.ErrSort, 3}, {"(= (f 1 1) 1)", api.ErrSort, 3}, {"(= (x 1) 1)", api.ErrSort, 3},
		{"(and true)", api.ErrSort, 0}, {"(and true 1)", api.ErrSort, 0}, {"(not true true)", api.ErrSort, 0}, {"(ite true 1 false)", api.ErrSort, 0}, {"(= 1 true)", api.ErrSort, 0}, {"(< x)", api.ErrSort, 0}, {"(= (* x x) y)", api.ErrLinear, 3}, {"(= (/ 1 x) y)", api.ErrLinear, 3}, {"(= (/ x 0) y)", api.ErrZero, 3}, {"(= (* x true) y)", api.ErrSort, 3}, {"(= 1 (+ 1))", api.ErrSort, 5},
		{"(let)", api.ErrSyntax, 0}, {"(let ((a 1)))", api.ErrSyntax, 0}, {"(let ((a 1)) a a)", api.ErrSyntax, 0}, {"(let a a)", api.ErrSyntax, 5}, {"(let () true)", api.ErrSyntax, 5}, {"(let (a) true)", api.ErrSyntax, 6}, {"(let ((a)) true)", api.ErrSyntax, 6}, {"(let ((a 1 1)) true)", api.ErrSyntax, 6}, {"(let (()) true)", api.ErrSyntax, 6},
		{"(let ((5 y)) true)", api.ErrSyntax, 7}, {"(let ((let 1)) true)", api.ErrSyntax, 7}, {"(let (((a) 1)) true)", api.ErrSyntax, 7}, {"(let ((and y)) true)", api.ErrReserved, 7}, {"(let ((.a y)) true)", api.ErrReserved, 7}, {"(let ((a 1)(a y)) true)", api.ErrAgain, 12}, {"(let ((a y)(a 1)) true)", api.ErrUnknown, 9}, {"(let ((a 1)(b a)) true)", api.ErrUnknown, 14}, {"(let ((a 1)(5)) true)", api.ErrSyntax, 11},
		{"(let ((a true)) (a true))", api.ErrSort, 16}, {"(let ((f true)) f)", 0, 0}, {"(let ((f true)) (f 1))", api.ErrSort, 16}, {"(let ((x true)) x)", 0, 0}, {"(let ((l 1)) (< l x))", 0, 0}, {"(let ((a true)) (let ((a 1)(b a)) (and b (< a x))))", 0, 0}, {"(let ((a true)) (and (let ((a 1)) (< a 2)) a))", 0, 0}, {"(and (let ((a true)) a) a)", api.ErrUnknown, 24}, {"(let ((|| true)) ||)", 0, 0}, {"(let ((a (let ((b true)) b))(b false)) (and a b))", 0, 0},
	} {
		e := places{d + "(assert " + c.text + ")", []int{7, 7, 8}, c.e, n + c.at}
		if c.e == api.OK {
			e.kinds, e.at = []int{7, 7, 8, 8}, 0
		}
		if c.e == api.ErrGlued {
			e.kinds = []int{7, 7, 8}
		}
		list = append(list, e)
	}
	lookAt(t, "terms that are read", list)
}

// What is made in the work bank counts, needed or not.
func TestLimitOfTerms(t *testing.T) {
	nots := func(n int) string { return strings.Repeat("(not ", n) + "p" + strings.Repeat(")", n) }
	const d = "(declare-const p Bool)"
	s, e, at := script.Parse(d + "(assert " + nots(api.MaxTerms-1) + ")(check-sat)")
	if e != api.OK || at != 0 || len(s.Bank.Terms) != api.MaxTerms || len(s.Cmds) != 3 {
		t.Fatalf("a script of MaxTerms terms: %d at %d", e, at)
	}
	printed, e := script.Print(s)
	again, f, _ := script.Parse(printed)
	if e != api.OK || f != api.OK || !sameScript(s, again) || printed != d+"\n(assert "+nots(api.MaxTerms-1)+")\n(check-sat)\n" {
		t.Errorf("C12: a script of MaxTerms terms: %d, %d", e, f)
	}
	if e := script.Check(s); e != api.OK {
		t.Errorf("C8: a script of MaxTerms terms: %d", e)
	}
	room := api.MaxTerms - 2 // with p, room for one term
	full := d + "(define-const unused Bool " + nots(room) + ")"
	for _, c := range []struct {
		text string
		e    api.Errno
		at   int
	}{
		{"(assert true)(assert p)", 0, 0}, {"(assert true)(assert false)", api.ErrLimit, 21}, {"(assert true)(get-value ( 5))", api.ErrLimit, 26}, {"(assert true)(get-value ( (- 5)))", api.ErrLimit, 26}, {"(assert (and p (or p p) true))", api.ErrLimit, 24},
		{"(assert (and p p))(assert (or p p))", api.ErrLimit, 26}, {"(declare-const q Bool)(declare-const r Bool)(assert q)(assert  r)", api.ErrLimit, 63}, {" (define-fun f ((a Bool)(b Bool)) Bool a)", api.ErrLimit, 1}, {"(define-fun f ((a Bool)) Bool a)(assert (f p))", 0, 0}, {"(define-fun f ((a Bool)) Bool (not a))", api.ErrLimit, 30}, {"(push 1)(pop 1)(reset)(assert true)(assert false)", api.ErrLimit, 43}, {"(push 1)(assert true)(pop 1)(assert false)", api.ErrLimit, 36},
		{"(assert (let ((a true)) (let ((b false)) a)))", api.ErrLimit, 33},
	} {
		want := c.at
		if c.e != api.OK {
			want += len(full)
		}
		if s, e, at := script.Parse(full + c.text); e != c.e || at != want || script.Check(s) != api.OK {
			t.Errorf("C4, the limit of terms: %s: %d at %d, want %d at %d", c.text, e, at-len(full), c.e, c.at)
		}
	}
	big := d + "(define-fun f ((a Bool)) Bool " + strings.ReplaceAll(nots(30000), "p", "a") + ")"
	// Each use makes as many terms as the body has; the fourth finds no room.
	uses := "(assert (f p))(declare-const q Bool)(assert (f q))(declare-const r Bool)(assert (f r))"
	if s, e, at := script.Parse(big + uses); e != api.ErrLimit || at != len(big)+strings.Index(uses, "(f r)") || len(s.Cmds) != 5 || len(s.Bank.Terms) != 60002 {
		t.Errorf("C4, the limit of terms in a definition: %d at %d, %d commands, %d terms", e, at, len(s.Cmds), len(s.Bank.Terms))
	}
}

func TestDeepTexts(t *testing.T) {
	const n = 60000
	for _, c := range []struct {
		what, text string
		e          api.Errno
		at         int
	}{
		{"let in let", "(assert " + strings.Repeat("(let ((p true)) ", n) + "p" + strings.Repeat(")", n) + ")", 0, 0},
		{"let in a binding", "(assert " + strings.Repeat("(let ((p ", n) + "true" + strings.Repeat(")) p)", n) + ")", 0, 0},
		{"lists in lists", "(assert " + strings.Repeat("(", n) + strings.Repeat(")", n) + ")", api.ErrSyntax, 9},
		{"an unknown symbol deep within", "(assert " + strings.Repeat("(not ", n) + "p" + strings.Repeat(")", n) + ")", api.ErrUnknown, 8 + 5*n},
		{"a value", "(set-info :k " + strings.Repeat("(", n) + strings.Repeat(")", n) + ")", 0, 0},
		{"nothing closed", strings.Repeat("(assert ", n), api.ErrOpen, 0},
	} {
		s, e, at := script.Parse(c.text)
		if e != c.e || at != c.at || script.Check(s) != api.OK {
			t.Errorf("P0.7: %s: %d at %d, want %d at %d", c.what, e, at, c.e, c.at)
		}
	}
}

// A wide script must not take a time that grows with the square of its length: it would not end within a test's.
func TestLongTexts(t *testing.T) {
	var b strings.Builder
	b.WriteString("(declare-const p Bool)(define-const big Bool (and")
	for i := range 19000 {
		b.WriteString(" (= p (= p (> " + strconv.Itoa(i) + " 1)))")
	}
	b.WriteString("))(push 1)")
	for i := range 15000 {
		b.WriteString("(declare-const q" + strconv.Itoa(i) + " Bool)(assert q" + strconv.Itoa(i) + ")(echo \"a\")")
	}
	b.WriteString("(pop 1)(assert big)(get-value (big big))")
	s, e, _ := script.Parse(b.String())
	if e != api.OK || len(s.Cmds) != 45005 {
		t.Fatalf("a long script: %d, %d commands", e, len(s.Cmds))
	}
	printed, e := script.Print(s)
	again, f, _ := script.Parse(printed)
	if e != api.OK || f != api.OK || !sameScript(s, again) {
		t.Errorf("C12: a long script: %d, %d", e, f)
	}
}

func TestAnyBytes(t *testing.T) {
	for _, text := range []string{"\x00", "\xff\xfe", "(\x00)", "(assert \xc3)", "((((", "))))", "(assert (let ((", "|", "\"", "(assert |a", "(push 1)\x00", strings.Repeat("(", 1000), "(assert (\xe2\x82\xac))"} {
		look(t, text)
	}
}
