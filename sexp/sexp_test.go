package sexp_test

import (
	"math/rand"
	"slices"
	"strings"
	"testing"

	"arbiter/api"
	"arbiter/scan"
	"arbiter/sexp"
)

func atom(kind, at, end int, text string) api.Node {
	return api.Node{Kind: kind, At: at, End: end, Size: 1, Text: text}
}

func list(at, end, size int) api.Node {
	return api.Node{Kind: api.KindOpen, At: at, End: end, Size: size}
}

func TestRead(t *testing.T) {
	a := atom(3, 0, 1, "a")
	for _, c := range []struct {
		text  string
		want  []api.Node
		e     api.Errno
		place int
	}{
		{"(f x)", []api.Node{list(0, 5, 3), atom(3, 1, 2, "f"), atom(3, 3, 4, "x")}, 0, 0},
		{"a () |b c|", []api.Node{a, list(2, 4, 1), atom(3, 5, 10, "b c")}, 0, 0},
		{"((1.5))", []api.Node{list(0, 7, 3), list(1, 6, 2), atom(6, 2, 5, "1.5")}, 0, 0},
		{"a)b", []api.Node{a}, api.ErrClose, 1},
		{"a (b (c", []api.Node{a}, api.ErrOpen, 2},
		{"(a 01)", nil, api.ErrGlued, 4},
		{") 01", nil, api.ErrClose, 0},
		{"(a) (b 01", []api.Node{list(0, 3, 2), atom(3, 1, 2, "a")}, api.ErrGlued, 8},
		{"; nothing", nil, 0, 0},
		{"", nil, 0, 0},
		{" \n(\t) ", []api.Node{list(2, 5, 1)}, 0, 0},
		{"let 12 #xAb #b1 \"s\"\"\" :k |let|", []api.Node{atom(4, 0, 3, "let"), atom(5, 4, 6, "12"), atom(7, 7, 11, "#xab"), atom(8, 12, 15, "#b1"), atom(9, 16, 21, "s\""), atom(10, 22, 24, "k"), atom(3, 25, 30, "let")}, 0, 0},
		{"(a (b) c) d", []api.Node{list(0, 9, 5), atom(3, 1, 2, "a"), list(3, 6, 2), atom(3, 4, 5, "b"), atom(3, 7, 8, "c"), atom(3, 10, 11, "d")}, 0, 0},
		{"(()((()))())", []api.Node{list(0, 12, 6), list(1, 3, 1), list(3, 9, 3), list(4, 8, 2), list(5, 7, 1), list(9, 11, 1)}, 0, 0},
		{"() ) '", []api.Node{list(0, 2, 1)}, api.ErrClose, 3},
		{"a '", []api.Node{a}, api.ErrByte, 2},
		{"a'", []api.Node{a}, api.ErrByte, 1},
		{"a )'", []api.Node{a}, api.ErrClose, 2},
		{"a ')", []api.Node{a}, api.ErrByte, 2},
		{"a \"b", []api.Node{a}, api.ErrString, 2},
		{"a (b) ((c) (d", []api.Node{a, list(2, 5, 2), atom(3, 3, 4, "b")}, api.ErrOpen, 6},
		{"(a ;)", nil, api.ErrOpen, 0},
		{"a (|b)", []api.Node{a}, api.ErrQuoted, 3},
		{"a (\"b)", []api.Node{a}, api.ErrString, 3},
		{"a (b 1.", []api.Node{a}, api.ErrNumber, 7},
		{"a ((b) :", []api.Node{a}, api.ErrKeyword, 8},
		{"a (\xC3", []api.Node{a}, api.ErrUtf8, 3},
		{"(()))(", []api.Node{list(0, 4, 2), list(1, 3, 1)}, api.ErrClose, 4},
		{"\"(\" |)| ; (\n", []api.Node{atom(9, 0, 3, "("), atom(3, 4, 7, ")")}, 0, 0},
	} {
		if l, e, place := sexp.Read(c.text); !same(l, c.want) || e != c.e || place != c.place {
			t.Errorf("X2: Read(%q) = %#v, %d at %d, want %#v, %d at %d", c.text, l, e, place, c.want, c.e, c.place)
		}
	}
}

// Every short text, by the plain way, and what X5 and X6 say of it.
func TestReadShortTexts(t *testing.T) {
	look := func(text string) {
		l, e, place := sexp.Read(text)
		if want, f, at := plainRead(text); !same(l, want) || e != f || place != at {
			t.Fatalf("X2: Read(%q) = %#v, %d at %d, want %#v, %d at %d", text, l, e, place, want, f, at)
		}
		stand(t, text, l)
		s, f := sexp.Show(l)
		if f != api.OK {
			t.Fatalf("X5: what is read of %q cannot be written: %d", text, f)
		}
		readBack(t, l, s)
	}
	everyText("()a 0'", 6, look)
	everyText("()a\"|;\n:", 5, look)
}

// stand looks over X6.
func stand(t *testing.T, text string, nodes []api.Node) {
	t.Helper()
	places, ok := plainForest(nodes)
	if !ok {
		t.Fatalf("X2: Read(%q) = %#v is no forest", text, nodes)
	}
	within(t, text, nodes, places, 0, len(text))
	for at, n := range nodes {
		l, e, _ := sexp.Read(text[n.At:n.End])
		if e != api.OK || !same(moved(l, n.At), nodes[at:at+n.Size]) {
			t.Fatalf("X6: %q from %d to %d is read as %#v, %d", text, n.At, n.End, l, e)
		}
		if n.Kind == api.KindOpen {
			inner, _ := plainForest(nodes[at+1 : at+n.Size])
			within(t, text, nodes[at+1:at+n.Size], inner, n.At+1, n.End-1)
		}
	}
}

// within looks that the expressions stand between two places of the text, in their order.
func within(t *testing.T, text string, nodes []api.Node, places []int, begin, end int) {
	t.Helper()
	for _, at := range places {
		n := nodes[at]
		if n.At < begin || n.End <= n.At || n.End > end {
			t.Fatalf("X6: %q: %#v does not stand between %d and %d", text, n, begin, end)
		}
		if l, e, _ := scan.Tokens(text[begin:n.At]); len(l) != 0 || e != api.OK {
			t.Fatalf("X6: %q: %#v stands ahead of %#v", text, l, n)
		}
		begin = n.End
	}
}

// texts are put together by chance, most of them without an error.
func texts(seed int64, count int) []string {
	rng := rand.New(rand.NewSource(seed))
	parts := []string{"(", "(", ")", ")", "a", "let", "|a b|", "1", "2.50", "#xF", "\"s\"\"\"", ":k", "; note\n", "\n", "()", "(f x)", "'", "01", "\"", "|", "\xFF", ":"}
	var out []string
	for range count {
		var b strings.Builder
		depth := 0
		for range rng.Intn(14) {
			part := parts[rng.Intn(len(parts)-6*min(1, rng.Intn(12)))]
			if part == ")" && depth == 0 && rng.Intn(8) > 0 {
				continue
			}
			depth += strings.Count(part, "(") - strings.Count(part, ")")
			b.WriteString(part + " ")
		}
		if depth > 0 && rng.Intn(6) > 0 {
			b.WriteString(strings.Repeat(")", depth))
		}
		out = append(out, b.String())
	}
	return out
}

func TestReadLongTexts(t *testing.T) {
	for _, text := range texts(7, 4000) {
		l, e, place := sexp.Read(text)
		if want, f, at := plainRead(text); !same(l, want) || e != f || place != at {
			t.Fatalf("X2: Read(%q) = %#v, %d at %d, want %#v, %d at %d", text, l, e, place, want, f, at)
		}
		stand(t, text, l)
	}
}

func TestOneTextBehindTheOther(t *testing.T) {
	all := texts(8, 2000)
	for i, a := range all {
		first, e, _ := sexp.Read(a)
		if e != api.OK {
			continue
		}
		b := all[len(all)-1-i]
		second, f, place := sexp.Read(b)
		n := len(a) + 1
		want := append(append([]api.Node(nil), first...), moved(second, n)...)
		if f != api.OK {
			place += n
		}
		if l, e, at := sexp.Read(a + "\n" + b); !same(l, want) || e != f || at != place {
			t.Fatalf("X7: %q, then %q: %#v, %d at %d, want %#v, %d at %d", a, b, l, e, at, want, f, place)
		}
	}
}

func TestDeep(t *testing.T) {
	const n = 300000
	l, e, place := sexp.Read(strings.Repeat("(", n) + "x" + strings.Repeat(")", n))
	if e != api.OK || place != 0 || len(l) != n+1 || l[0] != list(0, 2*n+1, n+1) || l[n-1] != list(n-1, n+2, 2) {
		t.Fatalf("X1: %d nested lists: %d nodes, %d at %d", n, len(l), e, place)
	}
	if s, e := sexp.Show(l); e != api.OK || len(s) != 2*n+2 || strings.Count(s, "(") != n || s[n:n+2] != "x)" {
		t.Errorf("X3: %d nested lists are written with %d bytes, %d", n, len(s), e)
	}
	if kids, e := sexp.Kids(l, n-1); e != api.OK || len(kids) != 1 || kids[0] != n {
		t.Errorf("X4: the innermost list: %#v, %d", kids, e)
	}
	if l, e, place := sexp.Read("a " + strings.Repeat("(", n) + strings.Repeat(")", n-1)); e != api.ErrOpen || place != 2 || len(l) != 1 {
		t.Errorf("X2: one is not closed: %d nodes, %d at %d", len(l), e, place)
	}
	if l, e, place := sexp.Read(strings.Repeat("()", n)); e != api.OK || place != 0 || len(l) != n {
		t.Errorf("X1: %d empty lists: %d nodes, %d at %d", n, len(l), e, place)
	}
}

func TestShow(t *testing.T) {
	sym := func(s string) api.Node { return api.Node{Kind: 3, Size: 1, Text: s, At: 77, End: -1} }
	lst := func(n int) api.Node { return api.Node{Kind: 1, Size: n, At: -8, End: 3} }
	for _, c := range []struct {
		nodes []api.Node
		want  string
		e     api.Errno
	}{
		{nil, "", 0}, {[]api.Node{}, "", 0},
		{[]api.Node{lst(3), sym("f"), sym("x")}, "(f x)\n", 0},
		{[]api.Node{lst(1), sym("x")}, "()\nx\n", 0},
		{[]api.Node{lst(4), lst(1), lst(2), sym("let")}, "(() (|let|))\n", 0},
		{[]api.Node{lst(2), lst(2), lst(1)}, "", api.ErrNodes},
		{[]api.Node{lst(3), lst(2), lst(1)}, "((()))\n", 0},
		{[]api.Node{sym(""), {Kind: 4, Size: 1, Text: "let"}, {Kind: 5, Size: 1, Text: "10"}, {Kind: 6, Size: 1, Text: "0.10"}}, "||\nlet\n10\n0.10\n", 0},
		{[]api.Node{lst(5), {Kind: 7, Size: 1, Text: "#xa"}, {Kind: 8, Size: 1, Text: "#b1"}, {Kind: 9, Size: 1, Text: "say \"x\""}, {Kind: 10, Size: 1, Text: "k"}}, "(#xa #b1 \"say \"\"x\"\"\" :k)\n", 0},
		{[]api.Node{lst(2)}, "", api.ErrNodes},
		{[]api.Node{lst(3), sym("a")}, "", api.ErrNodes},
		{[]api.Node{lst(3), lst(3), sym("a"), sym("b")}, "", api.ErrNodes},
		{[]api.Node{lst(0)}, "", api.ErrNodes}, {[]api.Node{lst(-1)}, "", api.ErrNodes}, {[]api.Node{lst(-1 << 63)}, "", api.ErrNodes}, {[]api.Node{sym("a"), lst(1<<63 - 1)}, "", api.ErrNodes},
		{[]api.Node{{Kind: 3, Size: 2, Text: "a"}, sym("b")}, "", api.ErrNodes}, {[]api.Node{{Kind: 3, Size: 0, Text: "a"}}, "", api.ErrNodes},
		{[]api.Node{{Kind: 2, Size: 1, Text: ")"}}, "", api.ErrNodes}, {[]api.Node{{Kind: 1, Size: 1, Text: "("}}, "", api.ErrNodes},
		{[]api.Node{{Kind: 0, Size: 1}}, "", api.ErrNodes}, {[]api.Node{{Kind: 11, Size: 1, Text: "a"}}, "", api.ErrNodes}, {[]api.Node{{Kind: -3, Size: 1, Text: "a"}}, "", api.ErrNodes},
		{[]api.Node{sym("a|b")}, "", api.ErrName}, {[]api.Node{lst(2), sym("\x00")}, "", api.ErrName}, {[]api.Node{sym("a"), sym("\\")}, "", api.ErrName},
		{[]api.Node{{Kind: 4, Size: 1, Text: "foo"}}, "", api.ErrName}, {[]api.Node{{Kind: 5, Size: 1, Text: "01"}}, "", api.ErrName}, {[]api.Node{{Kind: 6, Size: 1, Text: "1."}}, "", api.ErrName},
		{[]api.Node{{Kind: 7, Size: 1, Text: "#xA"}}, "", api.ErrName}, {[]api.Node{{Kind: 8, Size: 1, Text: "#b"}}, "", api.ErrName}, {[]api.Node{{Kind: 9, Size: 1, Text: "\xFF"}}, "", api.ErrName}, {[]api.Node{{Kind: 10, Size: 1, Text: "1"}}, "", api.ErrName},
		{[]api.Node{sym("a|b"), lst(2)}, "", api.ErrNodes}, {[]api.Node{lst(2), sym("a|b"), lst(0)}, "", api.ErrNodes},
	} {
		if s, e := sexp.Show(c.nodes); s != c.want || e != c.e {
			t.Errorf("X3: Show(%#v) = %q, %d, want %q, %d", c.nodes, s, e, c.want, c.e)
		}
	}
}

// everyForest goes through all lists of up to four nodes out of a few, forests or not.
func everyForest(look func(nodes []api.Node)) {
	choice := []api.Node{{Kind: 3, Size: 1, Text: "a"}, {Kind: 3, Size: 1, Text: "|"}, {Kind: 5, Size: 2, Text: "1"}, {Kind: 2, Size: 1}, {Kind: 1, Size: 1, Text: "("}}
	for size := -1; size <= 5; size++ {
		choice = append(choice, api.Node{Kind: 1, Size: size})
	}
	var grow func(nodes []api.Node)
	grow = func(nodes []api.Node) {
		look(nodes)
		if len(nodes) == 4 {
			return
		}
		for _, n := range choice {
			grow(append(nodes[:len(nodes):len(nodes)], n))
		}
	}
	grow(nil)
}

func TestShowEveryForest(t *testing.T) {
	everyForest(func(nodes []api.Node) {
		want, e := "", api.ErrNodes
		if _, ok := plainForest(nodes); ok {
			e = api.ErrName
			if s, ok := plainShow(nodes, "\n"); ok {
				want, e = s+"\n", api.OK
				if len(nodes) == 0 {
					want = ""
				}
			}
		}
		s, f := sexp.Show(nodes)
		if s != want || f != e {
			t.Fatalf("X3: Show(%#v) = %q, %d, want %q, %d", nodes, s, f, want, e)
		}
		if f == api.OK {
			readBack(t, nodes, s)
		}
	})
}

func TestKids(t *testing.T) {
	nodes, _, _ := sexp.Read("(f (g) x)")
	two, _, _ := sexp.Read("a (b (c d) ()) e")
	for _, c := range []struct {
		nodes []api.Node
		at    int
		want  []int
		e     api.Errno
	}{
		{nodes, 0, []int{1, 2, 4}, 0}, {nodes, -1, []int{0}, 0}, {nodes, 1, nil, 0}, {nodes, 2, []int{3}, 0}, {nodes, 4, nil, 0},
		{nodes, 5, nil, api.ErrIndex}, {nodes, -2, nil, api.ErrIndex}, {nodes, 1<<63 - 1, nil, api.ErrIndex}, {nodes, -1 << 63, nil, api.ErrIndex},
		{two, -1, []int{0, 1, 7}, 0}, {two, 1, []int{2, 3, 6}, 0}, {two, 3, []int{4, 5}, 0}, {two, 6, nil, 0}, {two, 7, nil, 0}, {two, 8, nil, api.ErrIndex},
		{nil, -1, nil, 0}, {nil, 0, nil, api.ErrIndex}, {nil, -2, nil, api.ErrIndex},
		{nodes[1:3], 0, nil, api.ErrNodes}, {nodes[1:3], -1, nil, api.ErrNodes}, {nodes[1:3], 9, nil, api.ErrNodes}, {nodes[:4], -2, nil, api.ErrNodes},
		{[]api.Node{{Kind: 3, Size: 1, Text: "a|b", At: 9, End: -4}}, -1, []int{0}, 0},
	} {
		if l, e := sexp.Kids(c.nodes, c.at); !slices.Equal(l, c.want) || e != c.e {
			t.Errorf("X4: Kids(%#v, %d) = %#v, %d, want %#v, %d", c.nodes, c.at, l, e, c.want, c.e)
		}
	}
}

func TestKidsOfEveryForest(t *testing.T) {
	everyForest(func(nodes []api.Node) {
		outer, ok := plainForest(nodes)
		for at := -2; at <= len(nodes); at++ {
			var want []int
			e := api.OK
			switch {
			case !ok:
				e = api.ErrNodes
			case at < -1 || at == len(nodes):
				e = api.ErrIndex
			case at == -1:
				want = outer
			default:
				inner, _ := plainForest(nodes[at+1 : at+nodes[at].Size])
				for _, k := range inner {
					want = append(want, at+1+k)
				}
			}
			if l, f := sexp.Kids(nodes, at); !slices.Equal(l, want) || f != e {
				t.Fatalf("X4: Kids(%#v, %d) = %#v, %d, want %#v, %d", nodes, at, l, f, want, e)
			}
		}
	})
}

// What is handed out may be written over, up to its spare room; what is handed in is left as it is.
func TestMemory(t *testing.T) {
	spoil := func(l []api.Node) {
		l = l[:cap(l)]
		for i := range l {
			l[i] = api.Node{Kind: -1}
		}
	}
	for _, text := range []string{"(a (b) c)", "a b (c (d", "a b ) c", "a (b) '"} {
		want, _, _ := sexp.Read(text)
		held := append([]api.Node(nil), want...)
		again, _, _ := sexp.Read(text)
		spoil(again)
		if l, _, _ := sexp.Read(text); !same(l, held) || !same(want, held) {
			t.Errorf("X1: Read(%q) = %#v behind an answer that was written over", text, l)
		}
	}
	room, _, _ := sexp.Read("(a (b) c) d e")
	held := append([]api.Node(nil), room...)
	sexp.Show(room[:5])
	kids, _ := sexp.Kids(room[:5], 0)
	spare := kids[:cap(kids)]
	for i := range spare {
		spare[i] = -7
	}
	if l, e := sexp.Kids(room[:5], 0); !slices.Equal(l, []int{1, 2, 4}) || e != api.OK || !same(room, held) {
		t.Errorf("X1: Kids tells %#v, %d; the nodes are %#v", l, e, room)
	}
}
