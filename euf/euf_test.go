package euf_test

import (
	"math"
	"math/rand"
	"slices"
	"testing"

	"arbiter/api"
	"arbiter/euf"
)

// exampleNodes: a, b, (f a), (f b), (g a b), (g b a).
func exampleNodes() []api.Flat {
	return []api.Flat{{Fun: 0}, {Fun: 1}, {Fun: 2, Args: []int{0}}, {Fun: 2, Args: []int{1}}, {Fun: 3, Args: []int{0, 1}}, {Fun: 3, Args: []int{1, 0}}}
}

func newGraph(t *testing.T, nodes []api.Flat) *euf.Graph {
	t.Helper()
	g, e := euf.New(nodes)
	if g == nil || e != api.OK {
		t.Fatalf("E2: New: %v, %d", g, e)
	}
	return g
}

// say tells a saying to a graph and to the plain one.
func say(t *testing.T, g *euf.Graph, p *plain, s saying) {
	t.Helper()
	call := g.Equal
	if s.differ {
		call = g.Differ
	}
	if e := call(s.a, s.b, s.tag); e != api.OK {
		t.Fatalf("E3: %v: %d", s, e)
	}
	p.said = append(p.said, s)
}

// push opens a level of both.
func push(g *euf.Graph, p *plain) {
	g.Push()
	p.marks = append(p.marks, len(p.said))
}

// pop closes levels of both, as many as there are at most.
func pop(t *testing.T, g *euf.Graph, p *plain, n int) {
	t.Helper()
	if e := g.Pop(n); e != api.OK {
		t.Fatalf("E4: Pop(%d): %d of %v", n, e, p)
	}
	if left := len(p.marks) - n; n > 0 {
		p.said, p.marks = p.said[:p.marks[left]], p.marks[:left]
	}
}

// agree looks that a graph tells all that the plain one does, of every two nodes.
func agree(t *testing.T, g *euf.Graph, p *plain) {
	t.Helper()
	least := plainSame(p.nodes, p.said)
	if got := g.Roots(); !slices.Equal(got, least) {
		t.Fatalf("E5: Roots: %v, want %v of %v", got, least, p)
	}
	if got, want := g.Clash(), plainClash(p.nodes, p.said); got != want {
		t.Fatalf("E5: Clash: %v, want %v of %v", got, want, p)
	}
	for a := range p.nodes {
		for b := range p.nodes {
			if got, e := g.Same(a, b); got != (least[a] == least[b]) || e != api.OK {
				t.Fatalf("E5: Same(%d, %d): %v, %d of %v", a, b, got, e, p)
			}
			if got, e := g.Apart(a, b); got != plainApart(p.nodes, p.said, a, b) || e != api.OK {
				t.Fatalf("E5: Apart(%d, %d): %v, %d of %v", a, b, got, e, p)
			}
		}
	}
}

// explain looks that a graph tells good reasons for two nodes, and for a clash.
func explain(t *testing.T, g *euf.Graph, p *plain, a, b int) {
	t.Helper()
	judge := func(what string, tags []int, e, refused api.Errno, holds func([]saying) bool) {
		t.Helper()
		if !holds(p.said) {
			if len(tags) != 0 || e != refused {
				t.Fatalf("E6: %s(%d, %d): %v, %d, want %d of %v", what, a, b, tags, e, refused, p)
			}
		} else if bad := fault(p.said, tags, holds); bad != "" || e != api.OK {
			t.Fatalf("E6: %s(%d, %d): %v, %d: %s, of %v", what, a, b, tags, e, bad, p)
		}
	}
	same := func(said []saying) bool {
		least := plainSame(p.nodes, said)
		return least[a] == least[b]
	}
	tags, e := g.Why(a, b)
	judge("Why", tags, e, api.ErrApart, same)
	tags, e = g.WhyApart(a, b)
	judge("WhyApart", tags, e, api.ErrState, func(said []saying) bool { return plainApart(p.nodes, said, a, b) })
	tags, e = g.WhyClash()
	judge("WhyClash", tags, e, api.ErrState, func(said []saying) bool { return plainClash(p.nodes, said) })
	links, e := g.Prove(a, b)
	if !same(p.said) {
		if len(links) != 0 || e != api.ErrApart {
			t.Fatalf("E7: Prove(%d, %d): %v, %d of %v", a, b, links, e, p)
		}
		return
	}
	if e != api.OK || len(links) == 0 || links[len(links)-1].A != a || links[len(links)-1].B != b || plainAudit(p.nodes, given(p.said), links) != -1 {
		t.Fatalf("E7: Prove(%d, %d): %v, %d of %v", a, b, links, e, p)
	}
	if at, e := euf.Audit(p.nodes, given(p.said), links); at != -1 || e != api.OK {
		t.Fatalf("E8: Audit of %v: %d, %d of %v", links, at, e, p)
	}
}

func explainAll(t *testing.T, g *euf.Graph, p *plain) {
	t.Helper()
	for a := range p.nodes {
		for b := range p.nodes {
			explain(t, g, p, a, b)
		}
	}
}

func TestNew(t *testing.T) {
	for i, bad := range [][]api.Flat{
		{{Fun: 0, Args: []int{0}}},
		{{Fun: 0, Args: []int{1}}, {Fun: 1}},
		{{Fun: 0}, {Fun: 1, Args: []int{-1}}},
		{{Fun: 0}, {Fun: 1, Args: []int{0, 0, 1}}},
		{{Fun: 0}, {Fun: -1, Args: []int{1}}},
		{{Fun: -7, Args: []int{math.MinInt}}},
		{{Fun: 0}, {Fun: 1}, {Fun: 2, Args: []int{math.MaxInt}}},
	} {
		if g, e := euf.New(bad); g != nil || e != api.ErrNode {
			t.Errorf("E2: New %d: %v, %d", i, g, e)
		}
		if at, e := euf.Audit(bad, nil, []api.Link{{Kind: 9}}); at != 0 || e != api.ErrNode {
			t.Errorf("E8: Audit %d: %d, %d", i, at, e)
		}
	}
	for _, nodes := range [][]api.Flat{
		nil,
		{{Fun: -1}, {Fun: -1}, {Fun: 5}, {Fun: 5}},
		{{Fun: 5}, {Fun: 6, Args: []int{0}}, {Fun: 5}, {Fun: 6, Args: []int{2}}, {Fun: 6, Args: []int{1}}, {Fun: 6, Args: []int{3}}, {Fun: 5}},
		{{Fun: 0}, {Fun: 0, Args: []int{0}}, {Fun: 0, Args: []int{0, 0}}, {Fun: 0, Args: []int{0, 0, 0}}, {Fun: 0, Args: []int{0, 0}}, {Fun: 0, Args: []int{1}}},
		{{Fun: -1}, {Fun: -1, Args: []int{0}}, {Fun: -1, Args: []int{0}}, {Fun: math.MinInt}, {Fun: math.MaxInt}, {Fun: math.MaxInt}},
		{{Fun: math.MaxInt}, {Fun: math.MaxInt, Args: []int{0}}, {Fun: math.MaxInt, Args: []int{0}}, {Fun: 0, Args: []int{1, 2}}, {Fun: 0, Args: []int{2, 1}}},
	} {
		g, p := newGraph(t, nodes), &plain{nodes: nodes}
		agree(t, g, p)
		explainAll(t, g, p)
		if e := g.Pop(1); e != api.ErrLevel {
			t.Errorf("E2: a level is open: %d", e)
		}
	}
}

func TestExamples(t *testing.T) {
	g := newGraph(t, exampleNodes())
	p := &plain{nodes: exampleNodes()}
	agree(t, g, p)
	say(t, g, p, saying{false, 1, 0, 7})
	if l := g.Roots(); !slices.Equal(l, []int{0, 0, 2, 2, 4, 4}) {
		t.Errorf("E5: Roots: %v", l)
	}
	if l, e := g.Why(2, 3); !slices.Equal(l, []int{7}) || e != api.OK {
		t.Errorf("E6: Why(2, 3): %v, %d", l, e)
	}
	if l, e := g.Why(3, 3); len(l) != 0 || e != api.OK {
		t.Errorf("E6: Why(3, 3): %v, %d", l, e)
	}
	explainAll(t, g, p)
	say(t, g, p, saying{true, 4, 5, 9})
	if b, e := g.Apart(4, 4); !g.Clash() || !b || e != api.OK {
		t.Errorf("E5: Clash: %v, Apart(4, 4): %v, %d", g.Clash(), b, e)
	}
	if l, e := g.WhyClash(); !slices.Equal(l, []int{7, 9}) || e != api.OK {
		t.Errorf("E6: WhyClash: %v, %d", l, e)
	}
	explainAll(t, g, p)
	g.Push()
	g.Equal(0, 2, 3)
	if l := g.Roots(); !slices.Equal(l, []int{0, 0, 0, 0, 4, 4}) {
		t.Errorf("E5: Roots: %v", l)
	}
	if e := g.Pop(1); e != api.OK {
		t.Errorf("E4: Pop(1): %d", e)
	}
	if e := g.Pop(1); e != api.ErrLevel {
		t.Errorf("E4: Pop(1): %d", e)
	}
	agree(t, g, p)
	if l, e := g.Why(0, 2); l != nil || e != api.ErrApart {
		t.Errorf("E6: Why(0, 2): %v, %d", l, e)
	}
	if l, e := g.WhyApart(0, 1); l != nil || e != api.ErrState {
		t.Errorf("E6: WhyApart(0, 1): %v, %d", l, e)
	}
}

// TestBare: lists that a way of equalities gives, but from which something can be left out.
func TestBare(t *testing.T) {
	for i, said := range [][]saying{
		{{false, 0, 1, 7}, {false, 1, 0, 8}, {false, 0, 1, 8}},
		{{false, 0, 2, 1}, {false, 2, 1, 2}, {false, 0, 3, 1}, {false, 3, 1, 1}},                 // the tag 1 alone, by a way that came later
		{{false, 0, 1, 1}, {false, 2, 4, 2}, {false, 3, 5, 3}, {false, 4, 5, 2}},                 // 4 and 5 by the tag 1, or the tag 2
		{{true, 0, 1, 1}, {true, 0, 2, 1}, {false, 2, 1, 2}, {false, 1, 4, 1}},                   // a tag of Equals and Differs
		{{true, 0, 0, 5}, {false, 0, 1, 4}, {true, 0, 1, 3}},                                     // a clash that needs no Equal
		{{true, 4, 5, 3}, {true, 2, 3, 1}, {false, 2, 4, 1}, {false, 3, 5, 1}, {false, 0, 1, 1}}, // the clash by one tag
	} {
		g, p := newGraph(t, exampleNodes()), &plain{nodes: exampleNodes()}
		for _, s := range said {
			say(t, g, p, s)
			explainAll(t, g, p)
		}
		if t.Failed() {
			t.Fatalf("E6: list %d", i)
		}
	}
}

func TestErrors(t *testing.T) {
	g, p := newGraph(t, exampleNodes()), &plain{nodes: exampleNodes()}
	say(t, g, p, saying{false, 0, 1, 1})
	say(t, g, p, saying{true, 4, 5, 2})
	g.Push()
	say(t, g, p, saying{false, 0, 2, 3})
	for _, n := range []int{-1, 6, math.MinInt, math.MaxInt} {
		for _, x := range [][2]int{{n, 0}, {0, n}, {n, n}, {n, -1}} {
			a, b := x[0], x[1]
			if e := g.Equal(a, b, 1); e != api.ErrNode {
				t.Errorf("E3: Equal(%d, %d): %d", a, b, e)
			}
			if e := g.Differ(a, b, 1); e != api.ErrNode {
				t.Errorf("E3: Differ(%d, %d): %d", a, b, e)
			}
			same, e1 := g.Same(a, b)
			apart, e2 := g.Apart(a, b)
			if same || apart || e1 != api.ErrNode || e2 != api.ErrNode {
				t.Errorf("E5: Same(%d, %d): %v, %d; Apart: %v, %d", a, b, same, e1, apart, e2)
			}
			why, e1 := g.Why(a, b)
			whyApart, e2 := g.WhyApart(a, b)
			links, e3 := g.Prove(a, b)
			if why != nil || whyApart != nil || links != nil || e1 != api.ErrNode || e2 != api.ErrNode || e3 != api.ErrNode {
				t.Errorf("E6, E7: (%d, %d): %v, %d, %v, %d, %v, %d", a, b, why, e1, whyApart, e2, links, e3)
			}
		}
	}
	for _, n := range []int{-1, 2, math.MinInt, math.MaxInt} {
		if e := g.Pop(n); e != api.ErrLevel {
			t.Errorf("E4: Pop(%d): %d", n, e)
		}
	}
	if e := g.Pop(0); e != api.OK {
		t.Errorf("E4: Pop(0): %d", e)
	}
	agree(t, g, p)
	if e := g.Pop(1); e != api.OK {
		t.Errorf("E4: Pop(1): %d", e)
	}
	p.said = p.said[:2]
	agree(t, g, p)
	empty := newGraph(t, nil)
	if _, e := empty.Same(0, 0); e != api.ErrNode || len(empty.Roots()) != 0 || empty.Clash() || empty.Equal(0, 0, 0) != api.ErrNode {
		t.Errorf("E2: a graph without nodes: %d", e)
	}
}

// TestTags: tags are numbers of any size.
func TestTags(t *testing.T) {
	p := &plain{nodes: constants(6)}
	g := newGraph(t, p.nodes)
	for i, tag := range []int{math.MaxInt, math.MinInt, 0, -1, 1} {
		say(t, g, p, saying{i == 4, i, i + 1, tag})
	}
	if l, e := g.Why(0, 4); !slices.Equal(l, []int{math.MinInt, -1, 0, math.MaxInt}) || e != api.OK {
		t.Errorf("E6: Why(0, 4): %v, %d", l, e)
	}
	explainAll(t, g, p)
}

// TestLevels: what was said in a level that is closed leaves nothing behind, the tags of it neither.
func TestLevels(t *testing.T) {
	g, p := newGraph(t, exampleNodes()), &plain{nodes: exampleNodes()}
	say(t, g, p, saying{false, 0, 2, 1})
	for range 3 {
		base := len(p.said)
		g.Push()
		g.Push()
		say(t, g, p, saying{false, 0, 1, 1})
		say(t, g, p, saying{true, 4, 5, 1})
		explainAll(t, g, p)
		g.Push()
		say(t, g, p, saying{false, 2, 4, 2})
		agree(t, g, p)
		if e := g.Pop(2); e != api.OK {
			t.Fatalf("E4: Pop(2): %d", e)
		}
		p.said = p.said[:base]
		agree(t, g, p)
		explainAll(t, g, p)
		if e := g.Pop(1); e != api.OK {
			t.Fatalf("E4: Pop(1): %d", e)
		}
		say(t, g, p, saying{base%2 == 0, 3, 5, base})
		agree(t, g, p)
	}
	if e := g.Pop(1); e != api.ErrLevel {
		t.Errorf("E4: Pop(1): %d", e)
	}
}

// TestTwo: two graphs have nothing to do with one another.
func TestTwo(t *testing.T) {
	g, h := newGraph(t, exampleNodes()), newGraph(t, exampleNodes())
	p, q := &plain{nodes: exampleNodes()}, &plain{nodes: exampleNodes()}
	say(t, g, p, saying{false, 0, 1, 1})
	say(t, h, q, saying{true, 0, 1, 1})
	say(t, g, p, saying{false, 1, 2, 2})
	explainAll(t, g, p)
	explainAll(t, h, q)
	agree(t, g, p)
	agree(t, h, q)
}

func TestNumbers(t *testing.T) {
	for name, pair := range map[string][2]int{
		"ErrNode": {int(api.ErrNode), 80}, "ErrLevel": {int(api.ErrLevel), 81}, "ErrApart": {int(api.ErrApart), 82}, "ErrState": {int(api.ErrState), 91},
		"LinkGiven": {api.LinkGiven, 1}, "LinkSelf": {api.LinkSelf, 2}, "LinkTurn": {api.LinkTurn, 3}, "LinkChain": {api.LinkChain, 4}, "LinkCong": {api.LinkCong, 5},
	} {
		if pair[0] != pair[1] {
			t.Errorf("P0.8: %s: %d, want %d", name, pair[0], pair[1])
		}
	}
}

// someNodes are few functions at few nodes, so that much is alike.
func someNodes(rng *rand.Rand) []api.Flat {
	nodes := make([]api.Flat, rng.Intn(9))
	for i := range nodes {
		nodes[i].Fun = rng.Intn(5) - 1
		if i == 0 || rng.Intn(3) == 0 {
			nodes[i].Fun = rng.Intn(12) - 1
			continue
		}
		for range rng.Intn(4) {
			nodes[i].Args = append(nodes[i].Args, rng.Intn(i))
		}
	}
	return nodes
}

func someSaying(rng *rand.Rand, count int) saying {
	return saying{rng.Intn(4) == 0, rng.Intn(count), rng.Intn(count), rng.Intn(5) - 1}
}

// someGraph is a graph with some nodes, at least one, of which something is said.
func someGraph(t *testing.T, rng *rand.Rand) (*euf.Graph, *plain) {
	t.Helper()
	nodes := append(someNodes(rng), api.Flat{Fun: 0})
	g, p := newGraph(t, nodes), &plain{nodes: nodes}
	for range rng.Intn(8) {
		say(t, g, p, someSaying(rng, len(nodes)))
	}
	return g, p
}

func TestRandom(t *testing.T) {
	rng := rand.New(rand.NewSource(13))
	for range 1500 {
		nodes := someNodes(rng)
		g, p := newGraph(t, nodes), &plain{nodes: nodes}
		for range rng.Intn(25) {
			switch x := rng.Intn(10); {
			case x < 2:
				push(g, p)
			case x < 4:
				pop(t, g, p, rng.Intn(len(p.marks)+1))
				if e := g.Pop(len(p.marks) + 1); e != api.ErrLevel {
					t.Fatalf("E4: Pop(%d): %d of %v", len(p.marks)+1, e, p)
				}
			case len(nodes) > 0:
				say(t, g, p, someSaying(rng, len(nodes)))
			}
			agree(t, g, p)
			if len(nodes) > 0 {
				explain(t, g, p, rng.Intn(len(nodes)), rng.Intn(len(nodes)))
			}
		}
		explainAll(t, g, p)
	}
}

// TestSilent: the same as if it had been asked nothing on the way.
func TestSilent(t *testing.T) {
	rng := rand.New(rand.NewSource(14))
	for range 1000 {
		nodes := someNodes(rng)
		if len(nodes) == 0 {
			continue
		}
		g, p := newGraph(t, nodes), &plain{nodes: nodes}
		for range rng.Intn(40) {
			switch x := rng.Intn(8); {
			case x < 2:
				push(g, p)
			case x < 4:
				pop(t, g, p, rng.Intn(len(p.marks)+1))
			default:
				say(t, g, p, someSaying(rng, len(nodes)))
			}
		}
		agree(t, g, p)
		explain(t, g, p, rng.Intn(len(nodes)), rng.Intn(len(nodes)))
	}
}

// TestMany: more nodes, with levels, held against the plain way now and then.
func TestMany(t *testing.T) {
	rng := rand.New(rand.NewSource(19))
	for range 60 {
		nodes := constants(10)
		for i := 10; i < 50; i++ {
			nodes = append(nodes, api.Flat{Fun: 10 + rng.Intn(4), Args: []int{rng.Intn(i)}})
			for range nodes[i].Fun % 3 {
				nodes[i].Args = append(nodes[i].Args, rng.Intn(i))
			}
		}
		g, p := newGraph(t, nodes), &plain{nodes: nodes}
		for range 60 {
			switch x := rng.Intn(6); {
			case x == 0:
				push(g, p)
			case x == 1:
				pop(t, g, p, rng.Intn(len(p.marks)+1))
			default:
				say(t, g, p, saying{rng.Intn(8) == 0, rng.Intn(50), rng.Intn(50), rng.Intn(20)})
			}
			if got, want := g.Roots(), plainSame(nodes, p.said); !slices.Equal(got, want) {
				t.Fatalf("E5: Roots: %v, want %v of %v", got, want, p)
			}
			if got, want := g.Clash(), plainClash(nodes, p.said); got != want {
				t.Fatalf("E5: Clash: %v, want %v of %v", got, want, p)
			}
			explain(t, g, p, rng.Intn(50), rng.Intn(50))
		}
	}
}
