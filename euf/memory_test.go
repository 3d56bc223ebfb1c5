package euf_test

import (
	"math/rand"
	"reflect"
	"slices"
	"testing"

	"arbiter/api"
	"arbiter/euf"
)

// roomy is a list with spare room, and something in it.
func roomy[T any](list []T, more T) []T {
	return append(slices.Grow(slices.Clone(list), 2), more, more)[:len(list)]
}

func roomyNodes(nodes []api.Flat) []api.Flat {
	out := roomy(nodes, api.Flat{Fun: 77})
	for i := range out {
		out[i].Args = roomy(out[i].Args, 77)
	}
	return out
}

func roomyLinks(links []api.Link) []api.Link {
	out := roomy(links, link(77, 77, 77, 77))
	for i := range out {
		out[i].Kids = roomy(out[i].Kids, 77)
	}
	return out
}

// wholeNodes tells all of the nodes, up to the end of their spare room.
func wholeNodes(nodes []api.Flat) []api.Flat {
	out := slices.Clone(nodes[:cap(nodes)])
	for i := range out {
		out[i].Args = slices.Clone(out[i].Args[:cap(out[i].Args)])
	}
	return out
}

func wholeLinks(links []api.Link) []api.Link {
	out := slices.Clone(links[:cap(links)])
	for i := range out {
		out[i].Kids = slices.Clone(out[i].Kids[:cap(out[i].Kids)])
	}
	return out
}

func spoil(list []int) {
	for i := range list[:cap(list)] {
		list[:cap(list)][i] = -99
	}
}

// TestHandedIn: what is handed in is neither changed nor kept.
func TestHandedIn(t *testing.T) {
	rng := rand.New(rand.NewSource(16))
	for range 300 {
		plainNodes := append(someNodes(rng), api.Flat{Fun: 0})
		nodes := roomyNodes(plainNodes)
		before := wholeNodes(nodes)
		g, p := newGraph(t, nodes), &plain{nodes: plainNodes}
		if !reflect.DeepEqual(wholeNodes(nodes), before) {
			t.Fatalf("E1: New changed its nodes: %v", nodes)
		}
		for i := range nodes {
			nodes[i].Fun = 3
			spoil(nodes[i].Args)
		}
		for range rng.Intn(8) {
			say(t, g, p, someSaying(rng, len(nodes)))
		}
		agree(t, g, p)
		explainAll(t, g, p)

		links, _ := g.Prove(0, 0)
		nodes, links, said := roomyNodes(plainNodes), roomyLinks(links), roomyLinks(append(given(p.said), link(2, 0, 0, 0, 0)))
		before, linksBefore, saidBefore := wholeNodes(nodes), wholeLinks(links), wholeLinks(said)
		euf.Audit(nodes, said, links)
		if !reflect.DeepEqual(wholeNodes(nodes), before) || !reflect.DeepEqual(wholeLinks(links), linksBefore) || !reflect.DeepEqual(wholeLinks(said), saidBefore) {
			t.Fatalf("E1: Audit changed what it was handed")
		}
	}
}

// TestHandedOut: an answer is new memory, and no two lists of it share any.
func TestHandedOut(t *testing.T) {
	rng := rand.New(rand.NewSource(17))
	for range 300 {
		g, p := someGraph(t, rng)
		for a := range p.nodes {
			for b := range p.nodes {
				spoil(g.Roots())
				why, _ := g.Why(a, b)
				whyApart, _ := g.WhyApart(a, b)
				whyClash, _ := g.WhyClash()
				spoil(why)
				spoil(whyApart)
				spoil(whyClash)
				links, _ := g.Prove(a, b)
				for i := range links {
					copied := wholeLinks(links)
					spoil(links[i].Kids)
					copied[i].Kids = wholeLinks(links[i : i+1])[0].Kids
					if !reflect.DeepEqual(wholeLinks(links), copied) {
						t.Fatalf("E1: two lists of Prove(%d, %d) share memory", a, b)
					}
				}
			}
		}
		agree(t, g, p)
		explainAll(t, g, p)
	}
}
