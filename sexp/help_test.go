package sexp_test

import (
	"testing"

	"arbiter/api"
	"arbiter/scan"
	"arbiter/sexp"
)

func same(a, b []api.Node) bool {
	if len(a) != len(b) {
		return false
	}
	for i := range a {
		if a[i] != b[i] {
			return false
		}
	}
	return true
}

// alike leaves the places out.
func alike(a, b []api.Node) bool {
	if len(a) != len(b) {
		return false
	}
	for i := range a {
		if a[i].Kind != b[i].Kind || a[i].Size != b[i].Size || a[i].Text != b[i].Text {
			return false
		}
	}
	return true
}

// moved is the nodes with all places more by n.
func moved(nodes []api.Node, n int) []api.Node {
	l := append([]api.Node(nil), nodes...)
	for i := range l {
		l[i].At += n
		l[i].End += n
	}
	return l
}

func everyText(alphabet string, length int, look func(text string)) {
	var grow func(text []byte)
	grow = func(text []byte) {
		look(string(text))
		if len(text) == length {
			return
		}
		for i := range len(alphabet) {
			grow(append(text[:len(text):len(text)], alphabet[i]))
		}
	}
	grow(nil)
}

// plainRead reads the tokens list by list, by recursion.
func plainRead(text string) ([]api.Node, api.Errno, int) {
	tokens, e, place := scan.Tokens(text)
	var done []api.Node
	for i := 0; i < len(tokens); {
		if tokens[i].Kind == api.KindClose {
			return done, api.ErrClose, tokens[i].At
		}
		nodes, next := plainOne(tokens, i)
		if next < 0 {
			if e == api.OK {
				return done, api.ErrOpen, tokens[i].At
			}
			return done, e, place
		}
		done = append(done, nodes...)
		i = next
	}
	return done, e, place
}

// plainOne reads the expression that begins at the token i, and tells which token stands behind it; -1, if it has no end.
func plainOne(tokens []api.Token, i int) ([]api.Node, int) {
	t := tokens[i]
	if t.Kind != api.KindOpen {
		return []api.Node{{Kind: t.Kind, At: t.At, End: t.End, Size: 1, Text: t.Text}}, i + 1
	}
	list := []api.Node{{Kind: api.KindOpen, At: t.At}}
	i++
	for i >= 0 && i < len(tokens) && tokens[i].Kind != api.KindClose {
		var kid []api.Node
		kid, i = plainOne(tokens, i)
		list = append(list, kid...)
	}
	if i < 0 || i == len(tokens) {
		return nil, -1
	}
	list[0].Size, list[0].End = len(list), tokens[i].End
	return list, i + 1
}

// plainForest says where the outermost expressions of nodes begin; nil and false, if they are no forest.
func plainForest(nodes []api.Node) ([]int, bool) {
	var places []int
	for at := 0; at < len(nodes); {
		n := nodes[at]
		switch {
		case n.Kind == api.KindOpen:
			if n.Text != "" || n.Size < 1 || n.Size > len(nodes)-at {
				return nil, false
			}
			if _, ok := plainForest(nodes[at+1 : at+n.Size]); !ok {
				return nil, false
			}
		case n.Kind < 3 || n.Kind > 10 || n.Size != 1:
			return nil, false
		}
		places = append(places, at)
		at += n.Size
	}
	return places, true
}

// plainShow writes a forest by recursion, with sep between the expressions.
func plainShow(nodes []api.Node, sep string) (string, bool) {
	places, _ := plainForest(nodes)
	text := ""
	for i, at := range places {
		n := nodes[at]
		s, e := "", api.OK
		if n.Kind == api.KindOpen {
			inner, ok := plainShow(nodes[at+1:at+n.Size], " ")
			if !ok {
				return "", false
			}
			s = "(" + inner + ")"
		} else if s, e = scan.Join([]api.Token{{Kind: n.Kind, Text: n.Text}}); e != api.OK {
			return "", false
		}
		if i > 0 {
			text += sep
		}
		text += s
	}
	return text, true
}

// readBack looks over X5 of a forest that can be written.
func readBack(t *testing.T, nodes []api.Node, text string) {
	t.Helper()
	again, e, place := sexp.Read(text)
	if e != api.OK || place != 0 || !alike(again, nodes) {
		t.Fatalf("X5: %#v is written %q, and read as %#v, %d at %d", nodes, text, again, e, place)
	}
	if s, e := sexp.Show(again); s != text || e != api.OK {
		t.Fatalf("X5: %q is written as %q, %d the second time", text, s, e)
	}
}
