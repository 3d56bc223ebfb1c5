package prep

import "arbiter/api"

// addNodes adds the nodes of all terms that count.
func (m *maker) addNodes() {
	m.goal.Nodes = []api.GNode{
		{Kind: api.NodeTrue, Sort: api.SortBool, Fun: -1, Term: -1},
		{Kind: api.NodeFalse, Sort: api.SortBool, Fun: -1, Term: -1},
	}
	isArgument := m.arguments()
	for t := range m.counts {
		switch v := m.terms[t]; {
		case v.Op == api.OpTrue:
			m.nodes[t] = 0
		case v.Op == api.OpFalse:
			m.nodes[t] = 1
		default:
			if kind := kindOf(v, isArgument[t]); kind != none {
				m.nodes[t] = len(m.goal.Nodes)
				m.goal.Nodes = append(m.goal.Nodes, m.node(t, kind))
			}
		}
	}
}

// arguments tells, by term, whether it is an argument of a function in a term that counts.
func (m *maker) arguments() []bool {
	is := make([]bool, len(m.terms))
	for t := range m.counts {
		if m.terms[t].Op == api.OpApp {
			for _, a := range m.terms[t].Args {
				is[a] = true
			}
		}
	}
	return is
}

// kindOf tells which kind of node a term that is neither true nor false has, or none.
func kindOf(v api.Term, isArgument bool) int {
	switch {
	case v.Op == api.OpApp:
		return api.NodeApp
	case v.Op == api.OpIte && v.Sort != api.SortBool:
		return api.NodePick
	case !isArgument:
		return none
	case v.Sort == api.SortBool:
		return api.NodePick
	}
	return api.NodeLin
}

// node makes the node of a term; what it is made of has its nodes.
func (m *maker) node(t, kind int) api.GNode {
	v := m.terms[t]
	n := api.GNode{Kind: kind, Sort: v.Sort, Fun: -1, Term: t}
	switch kind {
	case api.NodeApp:
		n.Fun = v.Fun
		for _, a := range v.Args {
			n.Args = append(n.Args, m.nodes[a])
		}
	case api.NodeLin:
		n.Lin = m.overNodes(m.book.Of(t))
	}
	return n
}
