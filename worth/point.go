package worth

import (
	"arbiter/api"
	"arbiter/rat"
)

// Point is what each node of a goal is worth.
type Point []Value

// PointOf tells the point that plain data is, as much as there are nodes, and whether it is one of these.
func PointOf(nodes []api.GNode, values []api.Value) (Point, bool) {
	p := make(Point, len(nodes))
	for i, n := range nodes {
		v, ok := Of(values[i], n.Sort)
		if !ok {
			return nil, false
		}
		p[i] = v
	}
	return p, IsTrue(p[0]) && !IsTrue(p[1])
}

// Meets tells whether an atom holds.
func (p Point) Meets(a api.Atom) bool {
	switch a.Kind {
	case api.AtomTrue:
		return IsTrue(p[a.L])
	case api.AtomEq:
		return p[a.L].Same(p[a.R])
	}
	sign := p.Form(a.Con.F).Sign()
	return sign < 0 || sign == 0 && a.Con.Op == api.ConLe
}

// Form tells what a linear form over nodes of sort Real is worth.
func (p Point) Form(f api.Lin) rat.Rat {
	k, _ := rat.Parse(f.K)
	summands := []rat.Rat{k}
	for _, mono := range f.M {
		c, _ := rat.Parse(mono.C)
		x, _ := p[mono.V].(Number)
		summands = append(summands, c.Mul(x.Rat))
	}
	return rat.Sum(summands...)
}
