package prep_test

import (
	"math/big"
	"slices"
	"strconv"
	"strings"
	"testing"

	"arbiter/api"
	"arbiter/prep"
)

// constants is so many new constants of a sort.
func (m maker) constants(sort, count int) []int {
	m.t.Helper()
	var list []int
	for range count {
		list = append(list, m.constant(sort))
	}
	return list
}

// R2: as many atoms as there may be, and one more. 447 things that are distinct two by two are 99681 equations.
func TestAtomLimit(t *testing.T) {
	m := newMaker(t, "U")
	distinct := m.op(api.OpDistinct, m.constants(2, 447)...)
	truths := m.constants(0, 320)
	all, more := m.op(api.OpAnd, truths[:319]...), m.op(api.OpNot, truths[319])
	b := m.Export()
	g := goalOf(t, b, distinct, all)
	if len(g.Atoms) != api.MaxAtoms || len(g.Forms) != 2*99681+1+319+1 {
		t.Errorf("R2: %d atoms, %d forms", len(g.Atoms), len(g.Forms))
	}
	if g, e := prep.Goal(b, []int{distinct, all, more}); e != api.ErrLimit || !sameGoal(g, api.Goal{}) {
		t.Errorf("R2: one atom too many: %d", e)
	}
	// The roots are looked at ahead of the limits.
	if _, e := prep.Goal(b, []int{distinct, all, more, truths[0], len(b.Terms)}); e != api.ErrIndex {
		t.Errorf("R2: a root that is no term: %d", e)
	}
	if _, e := prep.Goal(b, []int{distinct, all, more, 0}); e != api.ErrRoot {
		t.Errorf("R2: a root that is not of sort Bool: %d", e)
	}
	// What would be made but does not count is no matter.
	if g := goalOf(t, b, all); len(g.Atoms) != 319 {
		t.Errorf("R2: %d atoms", len(g.Atoms))
	}
}

// R2: as many forms as there may be, and one more. Of 547 truths that are distinct two by two, 149331 equations and as many opposites of them.
func TestFormLimit(t *testing.T) {
	m := newMaker(t)
	truths := m.constants(0, 547)
	distinct := m.op(api.OpDistinct, truths...)
	last := truths[0]
	var nots []int
	for range 791 {
		last = m.op(api.OpNot, last)
		nots = append(nots, last)
	}
	b := m.Export()
	g := goalOf(t, b, distinct, nots[789])
	if len(g.Forms) != api.MaxForms || len(g.Atoms) != 547 || !slices.Equal(g.Roots, []int{547 + 2*149331, api.MaxForms - 1}) {
		t.Errorf("R2: %d atoms, %d forms, roots %v", len(g.Atoms), len(g.Forms), g.Roots)
	}
	if g, e := prep.Goal(b, []int{distinct, nots[790]}); e != api.ErrLimit || !sameGoal(g, api.Goal{}) {
		t.Errorf("R2: one form too many: %d", e)
	}
}

// R2: a limit is met soon, however much would come behind it.
func TestFarAboveTheLimit(t *testing.T) {
	m := newMaker(t, "U")
	f := m.fun("f", 2, 2)
	list := []int{m.constant(2)}
	for range 3000 {
		list = append(list, m.app(f, list[len(list)-1]))
	}
	root := m.op(api.OpDistinct, list...)
	if _, e := prep.Goal(m.Export(), []int{root}); e != api.ErrLimit {
		t.Errorf("R2: %d", e)
	}
	reals := newMaker(t)
	root = reals.op(api.OpDistinct, reals.constants(1, 1500)...)
	if _, e := prep.Goal(reals.Export(), []int{root}); e != api.ErrLimit {
		t.Errorf("R2: %d", e)
	}
}

// P0.7: terms that nest as deep as a bank can be long, and are used twice at each step.
func TestDeepTerms(t *testing.T) {
	m := newMaker(t, "U")
	f, h := m.fun("f", 2, 2), m.fun("h", 0, 0)
	u, q := m.constant(2), m.constant(0)
	first := u
	for range 30000 {
		u = m.app(f, u)
	}
	for range 20000 {
		q = m.op(api.OpXor, q, q)
	}
	for range 10000 {
		q = m.app(h, m.op(api.OpNot, q))
	}
	both := m.op(api.OpAnd, m.op(api.OpEq, u, first), q)
	b := m.Export()
	g := goalOf(t, b, both)
	if len(g.Nodes) != 2+30001+1+20000 || len(g.Sides) != 10000 || len(g.Atoms) != 1+1+20000 {
		t.Fatalf("P0.7: %d nodes, %d sides, %d atoms", len(g.Nodes), len(g.Sides), len(g.Atoms))
	}
	// f goes from 0 to 1 to 0; h tells what it is given.
	in := model(table(elem(0), row(elem(1), elem(0))), table(truth(0), row(truth(1), truth(1))), table(elem(0)), table(truth(1)))
	values, e := prep.Values(b, g, in)
	if e != api.OK || values[2] != elem(0) || values[4] != elem(1) || values[30003] != elem(0) {
		t.Fatalf("P0.7: Values: %d", e)
	}
	atoms, e := prep.Atoms(g, values)
	if e != api.OK {
		t.Fatalf("P0.7: Atoms: %d", e)
	}
	forms, e := prep.Forms(g, atoms)
	if e != api.OK || slices.ContainsFunc(g.Sides, func(s int) bool { return !forms[s] }) {
		t.Fatalf("P0.7: Forms: %d", e)
	}
	// The 20000 xors of a thing with itself leave false; 10000 nots of that leave it so.
	if forms[g.Roots[0]] {
		t.Error("P0.7: the root holds")
	}
}

// P0.6: coefficients of any length, and sums that are used again and again.
func TestLongNumbers(t *testing.T) {
	m := newMaker(t)
	k := m.fun("k", 1, 1)
	x, y := m.constant(1), m.constant(1)
	sum := x
	const steps = 20000
	for range steps {
		sum = m.op(api.OpAdd, sum, sum)
	}
	at := m.app(k, sum)
	power := new(big.Int).Lsh(big.NewInt(1), steps).String()
	long := "7/1" + strings.Repeat("0", 20000)
	root := m.op(api.OpLt, m.op(api.OpAdd, sum, y), m.op(api.OpAdd, at, m.num(long)))
	g := m.goal(root)
	if n := g.Nodes[4]; n.Kind != api.NodeLin || !sameLin(n.Lin, form("0", api.Mono{V: 2, C: power})) {
		t.Error("P0.6: the form of a sum of itself, again and again")
	}
	// 2^20000 x + y - k - 7/10^20000 < 0: the opposite, divided by what x has.
	c := g.Atoms[0].Con.F
	quotient := new(big.Rat).SetFrac(big.NewInt(1), new(big.Int).Lsh(big.NewInt(1), steps))
	want := form(new(big.Rat).Mul(rational(long), quotient).RatString(), api.Mono{V: 2, C: "-1"},
		api.Mono{V: 3, C: new(big.Rat).Neg(quotient).RatString()}, api.Mono{V: 5, C: quotient.RatString()})
	if !sameLin(c, want) {
		t.Error("P0.6: the constraint of long numbers")
	}
	in := model(table(number("0")), table(number("1/3")), table(number("-"+power+"/3")))
	values, e := prep.Values(m.Export(), g, in)
	if e != api.OK || values[4] != number(power+"/3") {
		t.Fatalf("P0.6: Values: %d", e)
	}
	if atoms, e := prep.Atoms(g, values); e != api.OK || atoms[0] { // 0 < 7/10^20000
		t.Errorf("P0.6: Atoms: %v, %d", atoms, e)
	}
	values[3] = number("-" + new(big.Rat).Sub(rational(power+"/3"), rational(long)).RatString())
	if atoms, e := prep.Atoms(g, values); e != api.OK || !atoms[0] { // it is met just so: 0 <= 0
		t.Errorf("P0.6: Atoms: %v, %d", atoms, e)
	}
}

// Sums that grow from one another, each in a constraint of its own: none is reckoned from the ground again.
func TestGrowingSums(t *testing.T) {
	m := newMaker(t)
	x, y := m.constant(1), m.constant(1)
	const steps = 4000
	sum := x
	var parts []int
	for i := range steps {
		next := m.op(api.OpAdd, sum, []int{x, y}[i%2])
		parts = append(parts, m.op(api.OpLe, next, m.num(strconv.Itoa(i))), m.op(api.OpLt, next, sum))
		sum = next
	}
	g := m.goal(m.op(api.OpAnd, parts...))
	if len(g.Atoms) != steps+2 {
		t.Fatalf("R5: %d atoms", len(g.Atoms))
	}
	want := form("-1333/667", api.Mono{V: 2, C: "1"}, api.Mono{V: 3, C: "2000/2001"})
	if !sameLin(g.Atoms[steps+1].Con.F, want) {
		t.Errorf("R5: the last constraint is %+v", g.Atoms[steps+1])
	}
	// Of sums of ever more things only what parts two neighbours is looked at.
	m = newMaker(t)
	things := m.constants(1, steps)
	sum = things[0]
	parts = nil
	for _, next := range things[1:] {
		sum = m.op(api.OpAdd, sum, next)
		parts = append(parts, sum)
	}
	g = m.goal(m.op(api.OpLe, parts...))
	if len(g.Atoms) != steps-2 || !sameLin(g.Atoms[0].Con.F, form("0", api.Mono{V: 4, C: "-1"})) {
		t.Errorf("R5: %d atoms, the first %+v", len(g.Atoms), g.Atoms[0])
	}
}
