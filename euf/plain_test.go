package euf_test

import (
	"slices"

	"arbiter/api"
)

// saying is an Equal or a Differ.
type saying struct {
	differ    bool
	a, b, tag int
}

// plain is nodes and what stands, by the chapter's words.
type plain struct {
	nodes []api.Flat
	said  []saying
	marks []int
}

// alike: the same Fun, which is not below 0, and equally many Args.
func alike(x, y api.Flat) bool {
	return x.Fun >= 0 && x.Fun == y.Fun && len(x.Args) == len(y.Args)
}

// plainSame tells for each node the least one that is the same by these sayings: the relation grows until it stays.
func plainSame(nodes []api.Flat, said []saying) []int {
	least := make([]int, len(nodes))
	for i := range least {
		least[i] = i
	}
	unite := func(a, b int) bool {
		x, y := min(least[a], least[b]), max(least[a], least[b])
		for i := range least {
			if least[i] == y {
				least[i] = x
			}
		}
		return x != y
	}
	for grown := true; grown; {
		grown = false
		for _, s := range said {
			if !s.differ && unite(s.a, s.b) {
				grown = true
			}
		}
		for a, x := range nodes {
			for b, y := range nodes[:a] {
				fits := alike(x, y)
				for i := 0; fits && i < len(x.Args); i++ {
					fits = least[x.Args[i]] == least[y.Args[i]]
				}
				if fits && unite(a, b) {
					grown = true
				}
			}
		}
	}
	return least
}

func plainApart(nodes []api.Flat, said []saying, x, y int) bool {
	least := plainSame(nodes, said)
	return slices.ContainsFunc(said, func(s saying) bool {
		return s.differ && (least[x] == least[s.a] && least[y] == least[s.b] || least[x] == least[s.b] && least[y] == least[s.a])
	})
}

func plainClash(nodes []api.Flat, said []saying) bool {
	least := plainSame(nodes, said)
	return slices.ContainsFunc(said, func(s saying) bool { return s.differ && least[s.a] == least[s.b] })
}

// tagged tells the sayings whose tag is in a list.
func tagged(said []saying, tags []int) []saying {
	return slices.DeleteFunc(slices.Clone(said), func(s saying) bool { return !slices.Contains(tags, s.tag) })
}

func without(list []int, x int) []int {
	return slices.DeleteFunc(slices.Clone(list), func(y int) bool { return y == x })
}

// fault tells what is wrong with a list of tags that is to suffice for something, or nothing.
func fault(said []saying, tags []int, holds func([]saying) bool) string {
	for i, tag := range tags {
		if i > 0 && tags[i-1] >= tag {
			return "the tags do not rise"
		}
		if !slices.ContainsFunc(said, func(s saying) bool { return s.tag == tag }) {
			return "a tag of nothing that stands"
		}
		if holds(tagged(said, without(tags, tag))) {
			return "not bare"
		}
	}
	if !holds(tagged(said, tags)) {
		return "they do not suffice"
	}
	return ""
}

// given tells the Equals as links.
func given(said []saying) []api.Link {
	var links []api.Link
	for _, s := range said {
		if !s.differ {
			links = append(links, api.Link{Kind: api.LinkGiven, A: s.a, B: s.b, Tag: s.tag})
		}
	}
	return links
}

// plainAudit tells the first link that does not follow, or -1.
func plainAudit(nodes []api.Flat, given, links []api.Link) int {
	for i, l := range links {
		if !plainFollows(nodes, given, links[:i], l) {
			return i
		}
	}
	return -1
}

func plainFollows(nodes []api.Flat, given, earlier []api.Link, l api.Link) bool {
	if l.A < 0 || l.B < 0 || l.A >= len(nodes) || l.B >= len(nodes) {
		return false
	}
	var kids []api.Link
	for _, k := range l.Kids {
		if k < 0 || k >= len(earlier) {
			return false
		}
		kids = append(kids, earlier[k])
	}
	if l.Kind != 1 && l.Tag != 0 {
		return false
	}
	says := func(k api.Link, a, b int) bool { return k.A == a && k.B == b }
	switch l.Kind {
	case 1:
		return len(kids) == 0 && slices.ContainsFunc(given, func(g api.Link) bool {
			return g.Kind == 1 && says(g, l.A, l.B) && g.Tag == l.Tag
		})
	case 2:
		return len(kids) == 0 && l.A == l.B
	case 3:
		return len(kids) == 1 && says(kids[0], l.B, l.A)
	case 4:
		return len(kids) == 2 && kids[0].A == l.A && kids[1].B == l.B && kids[0].B == kids[1].A
	case 5:
		x, y := nodes[l.A], nodes[l.B]
		if !alike(x, y) || len(kids) != len(x.Args) {
			return false
		}
		for i, k := range kids {
			if !says(k, x.Args[i], y.Args[i]) {
				return false
			}
		}
		return true
	}
	return false
}
