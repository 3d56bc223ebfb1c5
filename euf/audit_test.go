package euf_test

import (
	"math"
	"math/rand"
	"slices"
	"testing"

	"arbiter/api"
	"arbiter/euf"
)

func link(kind, a, b, tag int, kids ...int) api.Link {
	return api.Link{Kind: kind, A: a, B: b, Tag: tag, Kids: kids}
}

func TestAudit(t *testing.T) {
	nodes := append(exampleNodes(), api.Flat{Fun: -1}, api.Flat{Fun: 2, Args: []int{0, 1}}, api.Flat{Fun: 7}, api.Flat{Fun: 7})
	said := []api.Link{link(1, 1, 0, 7, 5, 5), link(2, 2, 5, 1), link(1, 4, 4, -3), link(1, 99, 0, 1)}
	base := []api.Link{link(1, 1, 0, 7), link(3, 0, 1, 0, 0)} // 0: b is a, 1: a is b
	for i, x := range []struct {
		link    api.Link
		follows bool
	}{
		{link(1, 1, 0, 7), true},
		{link(1, 0, 1, 7), false},
		{link(1, 1, 0, 8), false},
		{link(1, 1, 0, 7, 0), false},
		{link(1, 2, 5, 1), false},
		{link(1, 4, 4, -3), true},
		{link(1, 4, 4, 0), false},
		{link(1, 99, 0, 1), false},
		{link(2, 5, 5, 0), true},
		{link(2, 5, 4, 0), false},
		{link(2, 5, 5, 5), false},
		{link(2, 5, 5, 0, 0), false},
		{link(2, 10, 10, 0), false},
		{link(2, -1, -1, 0), false},
		{link(3, 0, 1, 0, 0), true},
		{link(3, 1, 0, 0, 1), true},
		{link(3, 1, 0, 0, 0), false},
		{link(3, 0, 1, 0), false},
		{link(3, 0, 1, 0, 0, 0), false},
		{link(3, 0, 1, 7, 0), false},
		{link(3, 0, 1, 0, 2), false},
		{link(3, 0, 1, 0, -1), false},
		{link(3, 0, 1, 0, math.MaxInt), false},
		{link(3, 0, 1, 0, math.MinInt), false},
		{link(4, 1, 1, 0, 0, 1), true},
		{link(4, 0, 0, 0, 1, 0), true},
		{link(4, 1, 1, 0, 1, 0), false},
		{link(4, 1, 0, 0, 0, 1), false},
		{link(4, 0, 1, 0, 0, 1), false},
		{link(4, 1, 0, 0, 0, 0), false},
		{link(4, 1, 0, 0, 0), false},
		{link(4, 1, 1, 0), false},
		{link(4, 1, 1, 0, 0, 1, 0), false},
		{link(4, 1, 1, 1, 0, 1), false},
		{link(4, 1, 1, 0, 0, 2), false},
		{link(5, 2, 3, 0, 1), true},
		{link(5, 3, 2, 0, 0), true},
		{link(5, 2, 3, 0, 0), false},
		{link(5, 2, 3, 0), false},
		{link(5, 2, 3, 0, 1, 1), false},
		{link(5, 2, 3, 1, 1), false},
		{link(5, 4, 5, 0, 1, 0), true},
		{link(5, 4, 5, 0, 0, 1), false},
		{link(5, 4, 3, 0, 1, 0), false},
		{link(5, 7, 2, 0, 1), false},
		{link(5, 7, 4, 0, 1, 0), false},
		{link(5, 6, 6, 0), false},
		{link(5, 0, 0, 0), true},
		{link(5, 0, 1, 0), false},
		{link(5, 8, 9, 0), true},
		{link(5, 8, 10, 0), false},
		{link(0, 0, 0, 0), false},
		{link(6, 0, 0, 0), false},
		{link(-1, 1, 0, 7), false},
		{link(math.MaxInt, 0, 0, 0), false},
	} {
		want := -1
		if !x.follows {
			want = 2
		}
		if at, e := euf.Audit(nodes, said, append(slices.Clone(base), x.link, link(2, 0, 0, 0))); at != want || e != api.OK {
			t.Errorf("E8: Audit of link %d, %v: %d, %d, want %d", i, x.link, at, e, want)
		}
	}
	for i, x := range []struct {
		links []api.Link
		at    int
	}{
		{nil, -1},
		{[]api.Link{link(3, 0, 0, 0, 0)}, 0},
		{[]api.Link{link(1, 0, 1, 7)}, 0},
		{[]api.Link{link(2, 0, 0, 0), link(2, 0, 1, 0), link(3, 1, 0, 0, 1), link(9, 0, 0, 0)}, 1},
	} {
		if at, e := euf.Audit(nodes, said, x.links); at != x.at || e != api.OK {
			t.Errorf("E8: Audit of list %d: %d, %d, want %d", i, at, e, x.at)
		}
	}
	if at, e := euf.Audit(nil, said, base); at != 0 || e != api.OK {
		t.Errorf("E8: Audit without nodes: %d, %d", at, e)
	}
}

// spoilt changes one number of one link.
func spoilt(rng *rand.Rand, links []api.Link) []api.Link {
	links = slices.Clone(links)
	l := &links[rng.Intn(len(links))]
	l.Kids = slices.Clone(l.Kids)
	change := rng.Intn(5) - 2
	switch x := rng.Intn(6); {
	case x == 0:
		l.Kind += change
	case x == 1:
		l.A += change
	case x == 2:
		l.B += change
	case x == 3:
		l.Tag += change
	case x == 4 && len(l.Kids) > 0:
		l.Kids[rng.Intn(len(l.Kids))] += change
	default:
		l.Kids = append(l.Kids, rng.Intn(len(links)))
	}
	return links
}

// TestAuditRandom: proofs of which something was changed.
func TestAuditRandom(t *testing.T) {
	rng := rand.New(rand.NewSource(15))
	for range 3000 {
		g, p := someGraph(t, rng)
		links, _ := g.Prove(rng.Intn(len(p.nodes)), rng.Intn(len(p.nodes)))
		for range 6 {
			if len(links) == 0 {
				break
			}
			links = spoilt(rng, links)
			if at, e := euf.Audit(p.nodes, given(p.said), links); at != plainAudit(p.nodes, given(p.said), links) || e != api.OK {
				t.Fatalf("E8: Audit of %v: %d, %d of %v", links, at, e, p)
			}
		}
	}
}
