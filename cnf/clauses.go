package cnf

import "arbiter/api"

// maker makes the clauses of forms.
type maker struct {
	vars    int
	clauses [][]int
	lits    []int // by form: its literal
}

func newMaker(g api.Goal) *maker {
	return &maker{vars: len(g.Atoms), lits: make([]int, len(g.Forms))}
}

// hasVariable tells whether a form must be told by itself.
func hasVariable(f api.Form) bool {
	return f.Op != api.FormAtom && f.Op != api.FormNot
}

func (m *maker) put(clause ...int) {
	m.clauses = append(m.clauses, again(clause))
}

func (m *maker) literals(forms []int) []int {
	var list []int
	for _, f := range forms {
		list = append(list, m.lits[f])
	}
	return list
}

// literal tells the literal of a form whose arguments have theirs, and puts the clauses that say what its variable is.
func (m *maker) literal(f api.Form) int {
	args := m.literals(f.Args)
	switch f.Op {
	case api.FormAtom:
		return f.Atom + 1
	case api.FormNot:
		return -args[0]
	}
	m.vars++
	v := m.vars
	switch f.Op {
	case api.FormTrue:
		m.put(v)
	case api.FormAnd:
		m.bind(-v, args)
	case api.FormOr:
		m.bind(v, opposites(args))
	case api.FormIff:
		a, b := args[0], args[1]
		m.put(-v, -a, b)
		m.put(-v, a, -b)
		m.put(v, a, b)
		m.put(v, -a, -b)
	case api.FormIte:
		c, a, b := args[0], args[1], args[2]
		m.put(-v, -c, a)
		m.put(-v, c, b)
		m.put(v, -c, -a)
		m.put(v, c, -b)
	}
	return v
}

// bind says that not all of lits are true just if x is.
func (m *maker) bind(x int, lits []int) {
	for _, lit := range lits {
		m.put(x, lit)
	}
	m.put(append([]int{-x}, opposites(lits)...)...)
}

func opposites(lits []int) []int {
	out := make([]int, len(lits))
	for i, lit := range lits {
		out[i] = -lit
	}
	return out
}
