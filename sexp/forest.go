package sexp

import (
	"iter"

	"arbiter/api"
)

// standing goes through the expressions that stand one behind the other from begin up to end, by their places.
func standing(nodes []api.Node, begin, end int) iter.Seq[int] {
	return func(yield func(int) bool) {
		for at := begin; at < end; at += nodes[at].Size {
			if !yield(at) {
				return
			}
		}
	}
}

// forest keeps the ends of the lists that are open on a stack of its own: nodes may nest as deep as there are nodes.
func forest(nodes []api.Node) bool {
	ends := []int{len(nodes)} // its first is met by no node, so it is never empty
	for i, n := range nodes {
		for ends[len(ends)-1] == i {
			ends = ends[:len(ends)-1]
		}
		if n.Kind == api.KindOpen {
			if n.Text != "" || n.Size < 1 || n.Size > ends[len(ends)-1]-i {
				return false
			}
			ends = append(ends, i+n.Size)
		} else if n.Kind < api.KindSymbol || n.Kind > api.KindKeyword || n.Size != 1 {
			return false
		}
	}
	return true
}

// tokens gives the tokens of nodes that are a forest.
func tokens(nodes []api.Node) []api.Token {
	list := make([]api.Token, 0, len(nodes))
	var ends []int
	for i, n := range nodes {
		if n.Kind == api.KindOpen {
			ends = append(ends, i+n.Size)
			list = append(list, api.Token{Kind: api.KindOpen, Text: "("})
		} else {
			list = append(list, api.Token{Kind: n.Kind, Text: n.Text})
		}
		for len(ends) > 0 && ends[len(ends)-1] == i+1 {
			ends = ends[:len(ends)-1]
			list = append(list, api.Token{Kind: api.KindClose, Text: ")"})
		}
	}
	return list
}
