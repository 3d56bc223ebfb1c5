package euf_test

import (
	"math/rand"
	"testing"

	"arbiter/api"
	"arbiter/euf"
)

// proved looks over what a graph tells of two nodes that are the same, where the plain way would take too long.
func proved(t *testing.T, g *euf.Graph, p *plain, a, b, tags int) {
	t.Helper()
	if list, e := g.Why(a, b); len(list) != tags || e != api.OK {
		t.Errorf("E6: Why(%d, %d): %d tags, %d, want %d", a, b, len(list), e, tags)
	}
	links, e := g.Prove(a, b)
	if e != api.OK || len(links) == 0 || links[len(links)-1].A != a || links[len(links)-1].B != b {
		t.Fatalf("E7: Prove(%d, %d): %d links, %d", a, b, len(links), e)
	}
	if at, e := euf.Audit(p.nodes, given(p.said), links); at != -1 || e != api.OK {
		t.Errorf("E7: Audit of Prove(%d, %d): %d, %d", a, b, at, e)
	}
}

func constants(n int) []api.Flat {
	nodes := make([]api.Flat, n)
	for i := range nodes {
		nodes[i].Fun = i
	}
	return nodes
}

// TestChain: a long row of equalities, said in an order of its own.
func TestChain(t *testing.T) {
	const n = 30000
	p := &plain{nodes: constants(n)}
	g := newGraph(t, p.nodes)
	for _, i := range rand.New(rand.NewSource(18)).Perm(n - 1) {
		say(t, g, p, saying{false, i, i + 1, i})
	}
	proved(t, g, p, 0, n-1, n-1)
	proved(t, g, p, n-1, n/2, n/2-1)
	say(t, g, p, saying{true, n - 1, 0, n})
	if list, e := g.WhyClash(); len(list) != n || e != api.OK {
		t.Errorf("E6: WhyClash: %d tags, %d", len(list), e)
	}
}

// TestShort: the way is long, but one of its tags is enough, by what else has it.
func TestShort(t *testing.T) {
	const n = 30000
	p := &plain{nodes: constants(n)}
	g := newGraph(t, p.nodes)
	for i := range n - 1 {
		say(t, g, p, saying{false, i, i + 1, i})
	}
	say(t, g, p, saying{false, n - 1, 0, 20000})
	proved(t, g, p, 0, n-1, 1)
}

// TestLadder: a way of one tag, and beside it another one all whose tags are needed.
func TestLadder(t *testing.T) {
	const n = 30001
	p := &plain{nodes: constants(n)}
	g := newGraph(t, p.nodes)
	for i := range n - 2 {
		say(t, g, p, saying{false, i, i + 1, 0})
		say(t, g, p, saying{false, i, i + 2, i + 1})
	}
	say(t, g, p, saying{false, n - 2, n - 1, 0})
	list, e := g.Why(0, n-1)
	if len(list) != n/2 && len(list) != 1 || len(list) == 1 != (list[0] == 0) || e != api.OK {
		t.Errorf("E6: Why: %d tags, %d", len(list), e)
	}
	proved(t, g, p, 0, n-1, len(list))
}

// TestTower: a function at itself, as deep as there are nodes.
func TestTower(t *testing.T) {
	const n = 50000
	nodes := []api.Flat{{Fun: 0}}
	for i := range n {
		nodes = append(nodes, api.Flat{Fun: 1, Args: []int{i}})
	}
	p := &plain{nodes: nodes}
	g := newGraph(t, nodes)
	for range 3 {
		g.Push()
		say(t, g, p, saying{false, 0, 20011, 1})
		say(t, g, p, saying{false, 20011, 33333, 2})
		for _, root := range g.Roots() {
			if root != 0 {
				t.Fatalf("E5: a root is %d", root)
			}
		}
		proved(t, g, p, 0, 1, 2)
		proved(t, g, p, n, 1, 2)
		g.Pop(1)
		p.said = nil
		for i, root := range g.Roots() {
			if root != i {
				t.Fatalf("E5: the root of %d is %d", i, root)
			}
		}
	}
}

// TestTwins: two towers that are the same from the beginning.
func TestTwins(t *testing.T) {
	const n = 50000
	nodes := []api.Flat{{Fun: 0}, {Fun: 0}}
	for i := range n {
		nodes = append(nodes, api.Flat{Fun: 1, Args: []int{i}})
	}
	p := &plain{nodes: nodes}
	g := newGraph(t, nodes)
	proved(t, g, p, n, n+1, 0)
}

// TestWide: many arguments, which become the same one by one.
func TestWide(t *testing.T) {
	const n = 20000
	nodes := constants(2 * n)
	var a, b []int
	for i := range n {
		a, b = append(a, i), append(b, n+i)
	}
	nodes = append(nodes, api.Flat{Fun: 2 * n, Args: a}, api.Flat{Fun: 2 * n, Args: b}, api.Flat{Fun: 2 * n, Args: b[1:]})
	p := &plain{nodes: nodes}
	g := newGraph(t, nodes)
	for i := range n {
		if same, _ := g.Same(2*n, 2*n+1); same {
			t.Fatalf("E5: the same ahead of %d", i)
		}
		say(t, g, p, saying{false, n + i, i, i})
	}
	proved(t, g, p, 2*n, 2*n+1, n)
}

// TestManyApart: each of many nodes held apart from each other one.
func TestManyApart(t *testing.T) {
	const n = 400
	p := &plain{nodes: constants(n + 1)}
	g := newGraph(t, p.nodes)
	for a := range n {
		for b := range a {
			say(t, g, p, saying{true, a, b, a*n + b})
		}
	}
	for a := range n {
		for b := range n + 1 {
			if apart, e := g.Apart(a, b); apart != (a != b && b < n) || e != api.OK {
				t.Fatalf("E5: Apart(%d, %d): %v, %d", a, b, apart, e)
			}
		}
	}
	for a := range n {
		g.Push()
		g.Equal(n, a, -1)
		if apart, _ := g.Apart(n, a); apart || g.Clash() {
			t.Fatalf("E5: a clash with %d alone", a)
		}
		g.Push()
		g.Equal(n, (a+1)%n, -2)
		if list, e := g.WhyClash(); !g.Clash() || len(list) != 3 || e != api.OK {
			t.Fatalf("E6: WhyClash: %v, %d", list, e)
		}
		g.Pop(2)
	}
}

// TestDeepLevels: there is no limit to levels.
func TestDeepLevels(t *testing.T) {
	const n = 100000
	g := newGraph(t, constants(n+1))
	for i := range n {
		g.Push()
		g.Equal(i, i+1, 7)
	}
	if e := g.Pop(n + 1); e != api.ErrLevel {
		t.Errorf("E4: Pop: %d", e)
	}
	if list, e := g.Why(0, n); len(list) != 1 || e != api.OK {
		t.Errorf("E6: Why: %v, %d", list, e)
	}
	if e := g.Pop(n / 2); e != api.OK || g.Roots()[n/2] != 0 || g.Roots()[n/2+1] != n/2+1 {
		t.Errorf("E4: Pop: %d", e)
	}
	if e := g.Pop(n / 2); e != api.OK || g.Roots()[1] != 1 {
		t.Errorf("E4: Pop: %d", e)
	}
}

// TestManyQuestions: in a graph with many nodes, a question of few of them is answered soon.
func TestManyQuestions(t *testing.T) {
	const n = 100000
	g := newGraph(t, constants(n))
	for i := range n - 2 {
		g.Push()
		g.Equal(i, i+1, 1)
		g.Equal(i+1, i+2, 2)
		if list, e := g.Why(i, i+2); len(list) != 2 || e != api.OK {
			t.Fatalf("E6: Why: %v, %d", list, e)
		}
		if links, e := g.Prove(i, i+2); len(links) != 3 || e != api.OK {
			t.Fatalf("E7: Prove: %v, %d", links, e)
		}
		g.Pop(1)
	}
}
