package euf

import "arbiter/api"

// fact is what a given link says.
type fact struct {
	a, b, tag int
}

// audit is what links are held against.
type audit struct {
	nodes []api.Flat
	facts map[fact]struct{}
	links []api.Link
}

// Audit tells the first link that does not follow, or -1.
func Audit(nodes []api.Flat, given []api.Link, links []api.Link) (int, api.Errno) {
	if !sound(nodes) {
		return 0, api.ErrNode
	}
	u := audit{nodes, map[fact]struct{}{}, links}
	for _, l := range given {
		if l.Kind == api.LinkGiven {
			u.facts[fact{l.A, l.B, l.Tag}] = struct{}{}
		}
	}
	for i := range links {
		if !u.follows(i) {
			return i, api.OK
		}
	}
	return -1, api.OK
}

func (u *audit) follows(number int) bool {
	l := u.links[number]
	if !u.node(l.A) || !u.node(l.B) || l.Kind != api.LinkGiven && l.Tag != 0 {
		return false
	}
	for _, kid := range l.Kids {
		if kid < 0 || kid >= number {
			return false
		}
	}
	switch l.Kind {
	case api.LinkGiven:
		_, known := u.facts[fact{l.A, l.B, l.Tag}]
		return known && len(l.Kids) == 0
	case api.LinkSelf:
		return len(l.Kids) == 0 && l.A == l.B
	case api.LinkTurn:
		return len(l.Kids) == 1 && u.says(l.Kids[0], l.B, l.A)
	case api.LinkChain:
		return len(l.Kids) == 2 && u.says(l.Kids[0], l.A, u.links[l.Kids[1]].A) && u.links[l.Kids[1]].B == l.B
	case api.LinkCong:
		return u.congruent(l)
	}
	return false
}

func (u *audit) node(number int) bool {
	return number >= 0 && number < len(u.nodes)
}

// says tells whether a link speaks of these two, in this order.
func (u *audit) says(link, a, b int) bool {
	return u.links[link].A == a && u.links[link].B == b
}

func (u *audit) congruent(l api.Link) bool {
	a, b := u.nodes[l.A], u.nodes[l.B]
	if a.Fun < 0 || a.Fun != b.Fun || len(a.Args) != len(b.Args) || len(l.Kids) != len(a.Args) {
		return false
	}
	for i, kid := range l.Kids {
		if !u.says(kid, a.Args[i], b.Args[i]) {
			return false
		}
	}
	return true
}
