package world_test

import (
	"strings"
	"testing"

	"arbiter/api"
	"arbiter/world"
)

// readers is the bank of the tests of Read: p: Bool, f: U to U, h: Bool, Real to Real, and a second f.
func readers() api.Bank {
	return api.Bank{Sorts: []string{"U", "V", "U"}, Funs: []api.Fun{{Name: "p"}, {Name: "f", Args: []int{2}, Out: 2}, {Name: "h", Args: []int{0, 1}, Out: 1}, {Name: "f", Out: 3}}}
}

const (
	aP = "(define-fun p () Bool true)"
	aF = "(define-fun f ((z U)) U (as @4 U))"
	aH = "(define-fun h ((x Bool) (y Real)) Real 0)"
	aV = "(define-fun f () V (as @5 V))"
)

func wants(t *testing.T, b api.Bank, text string, e api.Errno, place int) {
	t.Helper()
	m, f, at := world.Read(b, text)
	if f != e || at != place || len(m.Tables) > 0 {
		t.Errorf("W8: Read(%q) = %+v, %d at %d, want %d at %d", text, m, f, at, e, place)
	}
	if _, f, at := plainRead(b, text); f != e || at != place {
		t.Errorf("the plain reader of %q: %d at %d, want %d at %d", text, f, at, e, place)
	}
}

func TestReadChapterExamples(t *testing.T) {
	b := api.Bank{Sorts: []string{"U"}, Funs: []api.Fun{{Name: "p"}, {Name: "f", Args: []int{2}, Out: 2}}}
	m := read(t, b, "((define-fun f ((z U)) U (ite (= (as @4 U) z) (as @1 U) (as @4 U))) (define-fun p () Bool true))")
	if !sameModel(m, model(table(truth(1)), table(elem(4), row(elem(1), elem(4))))) {
		t.Errorf("W8: %+v", m)
	}
	wants(t, b, "((define-fun p () Bool true))", api.ErrModel, 28)
	wants(t, b, "((define-fun p () Bool 1))", api.ErrSort, 23)
	wants(t, b, "((define-fun p () Real true))", api.ErrSort, 18)
	wants(t, b, "((define-fun q () Bool true))", api.ErrUnknown, 13)
	wants(t, b, "((define-fun p () Bool (not true)))", api.ErrSyntax, 23)
	wants(t, b, "((define-fun p () Bool (/ 1 0)))", api.ErrZero, 23)
	wants(t, b, "() p", api.ErrSyntax, 3)
	wants(t, b, "(", api.ErrOpen, 0)
}

func TestRead(t *testing.T) {
	b := readers()
	v := func(n int) api.Value { return api.Value{Sort: 3, N: n} }
	text := " ; a structure\n(" + aH[:len(aH)-2] + "(ite (and (= 1.50 y) (= x true)) (/ 2 4) (|ite| (|and| (|=| |x| false) (= (- (/ 1 (- 3.0))) y)) (- (- 3))\n (ite (and (= x false) (= y (/ 1 3))) 1 (ite (and (= x true) (= y 9)) 0 (/ (/ 1 2) (/ 4 (- 5.0))))))))" +
		"(define-fun f ((define U)) U (ite (= define (as @0 U)) (as @9223372036854775807 U) (ite (= (as |@0| |U|) |define|) (as @1 U) (as @2 U))))" +
		"(define-fun |p| () |Bool| |false|)" + aV + ") ; and no more"
	want := model(
		table(truth(0)),
		table(elem(2), row(elem(1<<63-1), elem(0)), row(elem(1), elem(0))),
		table(number("-5/8"), row(number("1/2"), truth(1), number("3/2")), row(number("3"), truth(0), number("1/3")), row(number("1"), truth(0), number("1/3")), row(number("0"), truth(1), number("9"))),
		table(v(5)),
	)
	if m := read(t, b, text); !sameModel(m, want) {
		t.Errorf("W8: %+v, want %+v", m, want)
	}
	if m := read(t, api.Bank{}, " ( ) "); len(m.Tables) != 0 {
		t.Errorf("W8: of nothing: %+v", m)
	}
}

// Parameters may have any name, those of values and of operators too.
func TestReadParameters(t *testing.T) {
	b := api.Bank{Sorts: []string{"U"}, Funs: []api.Fun{{Name: "g", Args: []int{0, 0, 2}, Out: 0}}}
	m := read(t, b, "((define-fun g ((true Bool) (= Bool) (as@ U)) Bool (ite (and (= as@ (as @1 U)) (= true true) (= = false)) true (ite (and (= false =) (= (as @2 U) as@) (= false true)) false false))))")
	if want := model(table(truth(0), row(truth(1), truth(1), truth(0), elem(1)), row(truth(0), truth(0), truth(0), elem(2)))); !sameModel(m, want) {
		t.Errorf("W8: %+v, want %+v", m, want)
	}
	b = api.Bank{Sorts: []string{"U"}, Funs: []api.Fun{{Name: "g", Args: []int{0, 0}}}}
	// The second thing goes first: of two parameters the right one is no value.
	wants(t, b, "((define-fun g ((u Bool) (w Bool)) Bool (ite (and (= u w) (= w u)) true true)))", api.ErrSyntax, 55)
	wants(t, b, "((define-fun g ((u Bool) (true Bool)) Bool (ite (and (= false true) (= u true) (= true u)) true true)))", api.ErrSyntax, 48)
	wants(t, b, "((define-fun g ((u Bool) (true Bool)) Bool (ite (and (= true u) (= u true)) true true)))", api.ErrSyntax, 61)
	m = read(t, b, "((define-fun g ((u Bool) (true Bool)) Bool (ite (and (= false true) (= u true)) true false)))")
	if want := model(table(truth(0), row(truth(1), truth(1), truth(0)))); !sameModel(m, want) {
		t.Errorf("W8: %+v, want %+v", m, want)
	}
}

// Sorts and functions of one name, and declared sorts that are named as Bool and Real are.
func TestReadNames(t *testing.T) {
	b := api.Bank{Sorts: []string{"U", "U", "Bool", "Real"}, Funs: []api.Fun{{Name: "f", Args: []int{3}, Out: 2}, {Name: "f", Args: []int{4}, Out: 5}, {Name: "f", Args: []int{0}, Out: 1}}}
	of := func(sort, n int) api.Value { return api.Value{Sort: sort, N: n} }
	m := read(t, b, "((define-fun f ((x U)) U (ite (= x (as @7 U)) (as @8 U) (as @9 U)))(define-fun f ((x Bool)) Real (ite (= (as @1 Bool) x) (as @2 Real) (as @3 Real)))(define-fun f ((x Bool)) Real (ite (= true x) 1 2)))")
	want := model(table(of(2, 9), row(of(2, 8), of(3, 7))), table(of(5, 3), row(of(5, 2), of(4, 1))), table(number("2"), row(number("1"), truth(1))))
	if !sameModel(m, want) {
		t.Errorf("W8: %+v, want %+v", m, want)
	}
	if again := read(t, b, shown(t, b, m)); !sameModel(again, want) {
		t.Errorf("W9: %+v, want %+v", again, want)
	}
	const first = "((define-fun f ((x U)) U (as @9 U))"
	wants(t, b, first+"(define-fun f ((x Bool)) Real 1))", api.ErrSort, 65)
	wants(t, b, first+"(define-fun f ((x Bool)) Real (ite (= x true) 1 1)))", api.ErrSort, 75)
	wants(t, b, first+"(define-fun f ((x Bool)) Real (as @1 Bool)))", api.ErrSort, 65)
	b.Funs = b.Funs[2:]
	wants(t, b, "((define-fun f ((x Bool)) Real (as @1 Real)))", api.ErrSort, 31)
	wants(t, b, "((define-fun f ((x Bool)) Real (ite (= x (as @1 Bool)) 1 2)))", api.ErrSort, 41)
}

// The rules of W8, one after the other, each error at its place.
func TestReadErrors(t *testing.T) {
	b := readers()
	f := func(body string) string { return "(" + strings.Replace(aF, "(as @4 U)", body, 1) }           // the body at 25
	h := func(body string) string { return "(" + strings.Replace(aH, "Real 0)", "Real "+body+")", 1) } // the body at 40
	p := func(body string) string { return "(" + strings.Replace(aP, "true", body, 1) }                // the body at 23
	for _, c := range []struct {
		text  string
		e     api.Errno
		place int
	}{
		// 1: what is no row of expressions is told ahead of all else.
		{"p 01", api.ErrGlued, 3}, {"((define-fun q () Bool 1)", api.ErrOpen, 0}, {"(p))", api.ErrClose, 3}, {"(p) '", api.ErrByte, 4}, {"(p) \"", api.ErrString, 4}, {"p |", api.ErrQuoted, 2}, {"(\xff)", api.ErrUtf8, 1}, {"(p #z)", api.ErrNumber, 4}, {"(p : )", api.ErrKeyword, 4},
		// 2
		{"", api.ErrSyntax, 0}, {" ; x", api.ErrSyntax, 4}, {"p", api.ErrSyntax, 0}, {" p ()", api.ErrSyntax, 1}, {"() ()", api.ErrSyntax, 3}, {"(p)\n\n p q", api.ErrSyntax, 6}, {"\"s\"", api.ErrSyntax, 0},
		// 4
		{"(p)", api.ErrSyntax, 1}, {"(())", api.ErrSyntax, 1}, {"( let)", api.ErrSyntax, 2}, {"((p () Bool true))", api.ErrSyntax, 1}, {"((define-fun p () Bool))", api.ErrSyntax, 1}, {"((define-fun p () Bool true true))", api.ErrSyntax, 1},
		{"((|define-fun| p () Bool true))", api.ErrSyntax, 1}, {"((define-fun-rec p () Bool true))", api.ErrSyntax, 1}, {"(((define-fun) p () Bool true))", api.ErrSyntax, 1},
		{"((define-fun let () Bool true))", api.ErrSyntax, 1}, {"((define-fun (p) () Bool true))", api.ErrSyntax, 1}, {"((define-fun \"p\" () Bool true))", api.ErrSyntax, 1}, {"((define-fun :p () Bool true))", api.ErrSyntax, 1},
		{"((define-fun p x Bool true))", api.ErrSyntax, 1}, {"((define-fun p () (Bool) true))", api.ErrSyntax, 1}, {"((define-fun p () let true))", api.ErrSyntax, 1}, {"((define-fun q x 5 true))", api.ErrSyntax, 1},
		{"(" + aP + " (define-fun))", api.ErrSyntax, 29},
		// 5
		{"((define-fun q (x) Int y))", api.ErrUnknown, 13}, {"((define-fun |P| () Bool true))", api.ErrUnknown, 13}, {"(" + aP + aP + ")", api.ErrAgain, 40}, {"(" + aP + "(define-fun p (x) Int y))", api.ErrAgain, 40},
		{"(" + aF + aV + aV + ")", api.ErrAgain, 76},
		// 6
		{"((define-fun p (x) Int y))", api.ErrSort, 15}, {"((define-fun f () U 1))", api.ErrSort, 15}, {"((define-fun f ((z U) (w U)) U 1))", api.ErrSort, 15}, {"(" + aF + aF + ")", api.ErrSort, 49},
		{"((define-fun f (z) Int y))", api.ErrSyntax, 16}, {"((define-fun f (()) Int y))", api.ErrSyntax, 16}, {"((define-fun f ((z)) Int y))", api.ErrSyntax, 16}, {"((define-fun f ((z U U)) Int y))", api.ErrSyntax, 16}, {"((define-fun f ((1 U)) Int y))", api.ErrSyntax, 16}, {"((define-fun f ((z (U))) Int y))", api.ErrSyntax, 16}, {"((define-fun f ((let U)) Int y))", api.ErrSyntax, 16},
		{"((define-fun f ((z V)) Int y))", api.ErrSort, 19}, {"((define-fun f ((z Real)) Int y))", api.ErrSort, 19}, {"((define-fun h ((x Bool) (x Int)) Int y))", api.ErrAgain, 26}, {"((define-fun h ((x Real) (x Real)) Int y))", api.ErrSort, 19}, {"((define-fun h ((x Bool) (y Bool)) Int y))", api.ErrSort, 28}, {"((define-fun h ((x Bool) z) Int y))", api.ErrSyntax, 25},
		{"((define-fun h ((x Bool) (|x| z z)) Int y))", api.ErrSyntax, 25},
		{"((define-fun f ((z U)) V y))", api.ErrSort, 23}, {"((define-fun f ((z U)) Bool y))", api.ErrSort, 23}, {"((define-fun p () bool y))", api.ErrSort, 18},
		// 7
		{p("(ite true true true)"), api.ErrSyntax, 23}, {f("(ite (= z (as @1 U)) (as @1 U))"), api.ErrSyntax, 25}, {f("(ite (= z (as @1 U)) (as @1 U) (as @1 U) (as @1 U))"), api.ErrSyntax, 25}, {f("(if (= z (as @1 U)) (as @1 U) (as @1 U))"), api.ErrSyntax, 25}, {f("ite"), api.ErrSyntax, 25}, {f("(\"ite\" (= z (as @1 U)) (as @1 U) (as @1 U))"), api.ErrSyntax, 25},
		{f("(ite c d e)"), api.ErrSyntax, 30}, {f("(ite (= z (as @1 U)) d e)"), api.ErrSyntax, 46}, {f("(ite (= z (as @1 U)) 1 e)"), api.ErrSort, 46}, {f("(ite (= z (as @1 U)) (as @1 U) e)"), api.ErrSyntax, 56}, {f("(ite (= z (as @1 U)) (as @1 U) (ite c d e))"), api.ErrSyntax, 61},
		{h("(ite (and (= x true) (= y 1)) (ite (and (= x true) (= y 1)) 1 1) 1)"), api.ErrSyntax, 70},
		// 8
		{f("(ite z d e)"), api.ErrSyntax, 30}, {f("(ite () d e)"), api.ErrSyntax, 30}, {f("(ite (and (= z (as @1 U))) d e)"), api.ErrSyntax, 30}, {f("(ite (and (= z (as @1 U)) (= z (as @1 U))) d e)"), api.ErrSyntax, 30}, {f("(ite (= z) d e)"), api.ErrSyntax, 30}, {f("(ite (= z (as @1 U) (as @1 U)) d e)"), api.ErrSyntax, 30}, {f("(ite (== z (as @1 U)) d e)"), api.ErrSyntax, 30}, {f("(ite (= w (as @1 U)) d e)"), api.ErrSyntax, 30}, {f("(ite (= \"z\" (as @1 U)) d e)"), api.ErrSyntax, 30}, {f("(ite (= :z (as @1 U)) d e)"), api.ErrSyntax, 30}, {f("(ite (= (z) z) d e)"), api.ErrSyntax, 33},
		{f("(ite (= z 1) d e)"), api.ErrSort, 35}, {f("(ite (= z z) d e)"), api.ErrSyntax, 35}, {f("(ite (= true z) d e)"), api.ErrSort, 33},
		{h("(ite (= x true) 1 1)"), api.ErrSyntax, 45}, {h("(ite and 1 1)"), api.ErrSyntax, 45}, {h("(ite (and (= x true)) 1 1)"), api.ErrSyntax, 45}, {h("(ite (and (= x true) (= y 1) (= y 1)) 1 1)"), api.ErrSyntax, 45}, {h("(ite (or (= x true) (= y 1)) 1 1)"), api.ErrSyntax, 45},
		{h("(ite (and x (= y 1)) 1 1)"), api.ErrSyntax, 50}, {h("(ite (and (= x true) y) 1 1)"), api.ErrSyntax, 61}, {h("(ite (and (= x true) (= x 1)) 1 1)"), api.ErrAgain, 61}, {h("(ite (and (= x true) (= q x)) 1 1)"), api.ErrAgain, 61}, {h("(ite (and (= x 1) (= x true)) 1 1)"), api.ErrSort, 55}, {h("(ite (and (= y true) (= x 1)) 1 1)"), api.ErrSort, 55},
		// 9
		{p("q"), api.ErrSyntax, 23}, {p("\"true\""), api.ErrSyntax, 23}, {p("#b1"), api.ErrSyntax, 23}, {p("#x1"), api.ErrSyntax, 23}, {p(":true"), api.ErrSyntax, 23}, {p("()"), api.ErrSyntax, 23}, {p("(true)"), api.ErrSyntax, 23}, {p("(let ((x true)) x)"), api.ErrSyntax, 23}, {p("let"), api.ErrSyntax, 23},
		{p("0.0"), api.ErrSort, 23}, {p("(- 1)"), api.ErrSort, 23}, {p("(/ 1 2)"), api.ErrSort, 23}, {p("(as @0 U)"), api.ErrSort, 23}, {p("(as @0 Bool)"), api.ErrSort, 23}, {p("(- true)"), api.ErrSyntax, 26}, {p("(/ 1 (- 0))"), api.ErrZero, 23},
		{f("true"), api.ErrSort, 25}, {f("(as @1 V)"), api.ErrSort, 25}, {f("(as @1 W)"), api.ErrSort, 25}, {f("(as @1 let)"), api.ErrSyntax, 25}, {f("(as @1 (U))"), api.ErrSyntax, 25}, {f("(as 1 U)"), api.ErrSyntax, 25}, {f("(as a1 U)"), api.ErrSyntax, 25}, {f("(as @ U)"), api.ErrSyntax, 25}, {f("(as @01 U)"), api.ErrSyntax, 25}, {f("(as @00 U)"), api.ErrSyntax, 25}, {f("(as @+1 U)"), api.ErrSyntax, 25}, {f("(as @-1 U)"), api.ErrSyntax, 25}, {f("(as @-0 U)"), api.ErrSyntax, 25}, {f("(as @1.0 U)"), api.ErrSyntax, 25}, {f("(as @1_0 U)"), api.ErrSyntax, 25}, {f("(as @@1 U)"), api.ErrSyntax, 25}, {f("(as |@ 1| U)"), api.ErrSyntax, 25}, {f("(as \"@1\" U)"), api.ErrSyntax, 25}, {f("(as :@1 U)"), api.ErrSyntax, 25}, {f("(as @1)"), api.ErrSyntax, 25}, {f("(as @1 U U)"), api.ErrSyntax, 25}, {f("(|as| @1 U)"), api.ErrSyntax, 25}, {f("as"), api.ErrSyntax, 25}, {f("@1"), api.ErrSyntax, 25},
		{f("(as @9223372036854775808 U)"), api.ErrSyntax, 25}, {f("(as @99999999999999999999999999 V)"), api.ErrSyntax, 25}, {f("(as @9223372036854775807 V)"), api.ErrSort, 25},
		{h("true"), api.ErrSort, 40}, {h("-"), api.ErrSyntax, 40}, {h("(-)"), api.ErrSyntax, 40}, {h("(- 1 2)"), api.ErrSyntax, 40}, {h("(/ 1)"), api.ErrSyntax, 40}, {h("(/ 1 2 3)"), api.ErrSyntax, 40}, {h("(+ 1 2)"), api.ErrSyntax, 40}, {h("(1)"), api.ErrSyntax, 40}, {h("(- x)"), api.ErrSyntax, 43}, {h("(- (as @1 U))"), api.ErrSyntax, 43}, {h("(- ())"), api.ErrSyntax, 43}, {h("(- (-))"), api.ErrSyntax, 43}, {h("(- (- true))"), api.ErrSyntax, 46}, {h("(/ 1 x)"), api.ErrSyntax, 45}, {h("(/ x 0)"), api.ErrSyntax, 43}, {h("(/ 1 (+ 1 2))"), api.ErrSyntax, 45}, {h("(/ (/ 1 2 3) 0)"), api.ErrSyntax, 43},
		{h("(/ 1 0.00)"), api.ErrZero, 40}, {h("(/ 0 (- 0))"), api.ErrZero, 40}, {h("(/ 1 (/ 0 5))"), api.ErrZero, 40}, {h("(/ 1 (/ 5 0))"), api.ErrZero, 45}, {h("(/ (/ 1 0) x)"), api.ErrZero, 43}, {h("(/ (/ 1 0) (/ 1 0))"), api.ErrZero, 43}, {h("(/ 1 (- (/ (- 0) 2)))"), api.ErrZero, 40}, {h("(- (/ 1 0))"), api.ErrZero, 43}, {h("(/ 0 (/ 0 x))"), api.ErrSyntax, 50}, {h("(/ 1 (/ (/ 0 2) 3))"), api.ErrZero, 40},
		{h("(ite (and (= x true) (= y (/ 1 0))) true 1)"), api.ErrZero, 66},
		{h("(as @1 Real)"), api.ErrSort, 40},
		// 10
		{"()", api.ErrModel, 1}, {" (  ) ; x", api.ErrModel, 4}, {"(" + aP + aF + aH + " )", api.ErrModel, 104}, {"(" + aF + aV + aH + ")", api.ErrModel, 105}, {"(" + aP + aF + aH + " p)", api.ErrSyntax, 104},
	} {
		if strings.Count(c.text, "(") > strings.Count(c.text, ")") && strings.HasPrefix(c.text, "((define-fun") && c.e != api.ErrOpen {
			c.text += ")"
		}
		wants(t, b, c.text, c.e, c.place)
	}
}

// What a token of a good text is changed into, it is read as the plain reader reads it.
func TestReadOfChangedTokens(t *testing.T) {
	b := readers()
	text := []string{
		"(", "(", "define-fun", "h", "(", "(", "x", "Bool", ")", "(", "y", "Real", ")", ")", "Real",
		"(", "ite", "(", "and", "(", "=", "x", "true", ")", "(", "=", "(", "-", "1", ")", "y", ")", ")", "(", "/", "1", "2.5", ")", "0", ")", ")",
		"(", "define-fun", "f", "(", "(", "z", "U", ")", ")", "U", "(", "ite", "(", "=", "z", "(", "as", "@4", "U", ")", ")", "(", "as", "@0", "U", ")", "(", "as", "@1", "U", ")", ")", ")",
		"(", "define-fun", "p", "(", ")", "Bool", "true", ")",
		"(", "define-fun", "f", "(", ")", "V", "(", "as", "@4", "V", ")", ")", ")",
	}
	if m := read(t, b, strings.Join(text, " ")); !sameModel(m, model(
		table(truth(1)), table(elem(1), row(elem(0), elem(4))), table(number("0"), row(number("2/5"), truth(1), number("-1"))), table(api.Value{Sort: 3, N: 4}))) {
		t.Fatalf("W8: %+v", m)
	}
	words := []string{"", "(", ")", "()", "x", "y", "z", "true", "false", "p", "f", "U", "V", "Bool", "Real", "ite", "and", "=", "-", "/", "as", "@0", "@04", "0", "1.5", "define-fun", "let", ":k", "\"s\"", "#b1", "(- 1)", "(/ 1 0)", "(as @3 U)", "x y", "'"}
	count := map[api.Errno]int{}
	for i := range text {
		for _, w := range words {
			list := append([]string(nil), text...)
			list[i] = w
			count[likePlain(t, b, strings.Join(list, " "))]++
			list[i] = text[i] + " " + w
			count[likePlain(t, b, strings.Join(list, " "))]++
		}
		for j := range i {
			list := append([]string(nil), text...)
			list[i], list[j] = list[j], list[i]
			count[likePlain(t, b, strings.Join(list, " "))]++
			count[likePlain(t, b, strings.Join(append(list[:j:j], list[i:]...), " "))]++
		}
	}
	for _, e := range []api.Errno{api.OK, api.ErrSyntax, api.ErrUnknown, api.ErrAgain, api.ErrSort, api.ErrZero, api.ErrModel, api.ErrOpen, api.ErrClose, api.ErrByte} {
		if count[e] == 0 {
			t.Errorf("no text with the error %d came up: %v", e, count)
		}
	}
}

// likePlain holds Read against the plain reader.
func likePlain(t *testing.T, b api.Bank, text string) api.Errno {
	t.Helper()
	m, e, at := world.Read(b, text)
	n, f, place := plainRead(b, text)
	if e != f || at != place || !sameModel(m, n) {
		t.Fatalf("W8: Read(%q) = %+v, %d at %d, want %+v, %d at %d", text, m, e, at, n, f, place)
	}
	return e
}
