package combine

import "arbiter/api"

// scope is the nodes that the literals are made of that are held.
type scope struct {
	goal  api.Goal
	in    []bool      // by node
	nodes layers[int] // those that are in
}

func newScope(g api.Goal) scope {
	return scope{goal: g, in: make([]bool, len(g.Nodes))}
}

func (s *scope) has(node int) bool {
	return s.in[node]
}

// open opens a level with the nodes that a literal is made of.
func (s *scope) open(lit int) {
	s.nodes.open()
	next := len(s.nodes.list)
	atom := s.goal.Atoms[atomOf(lit)]
	s.take(atom.L, atom.R)
	s.takeForm(atom.Con.F)
	for ; next < len(s.nodes.list); next++ {
		node := s.goal.Nodes[s.nodes.list[next]]
		s.take(node.Args...)
		s.takeForm(node.Lin)
	}
}

func (s *scope) take(nodes ...int) {
	for _, node := range nodes {
		if !s.in[node] {
			s.in[node] = true
			s.nodes.add(node)
		}
	}
}

func (s *scope) takeForm(f api.Lin) {
	for _, mono := range f.M {
		s.take(mono.V)
	}
}

func (s *scope) back(levels int) {
	for _, node := range s.nodes.back(levels) {
		s.in[node] = false
	}
}
