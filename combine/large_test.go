package combine_test

import (
	"slices"
	"strconv"
	"strings"
	"testing"

	"arbiter/api"
	"arbiter/combine"
)

// hold holds the literals of the atoms from one number to another.
func hold(x *combine.Theory, first, last int) {
	for lit := first; lit <= last; lit++ {
		x.Assert(lit)
	}
}

// TestLimit: as many nodes and atoms as there may be: a chain of things that are the same.
func TestLimit(t *testing.T) {
	const n = api.MaxTerms
	var nodes []api.GNode
	var atoms []api.Atom
	for i := range n {
		nodes = append(nodes, app(2, i))
		if i > 0 {
			atoms = append(atoms, same(i+1, i+2))
		}
	}
	g := goal(nodes, append(atoms, same(2, n+1))...)
	x := theory(t, g)
	hold(x, 1, n-1)
	if got := x.Implied(); !slices.Equal(got, []int{n}) {
		t.Fatalf("O7: the ends of a chain: %d literals", len(got))
	}
	values, err := x.World()
	if err != api.OK || len(values) != n+2 || values[2] != values[n+1] {
		t.Fatalf("O6: a chain: %d values, %d", len(values), err)
	}
	x.Assert(-n)
	lemma, err := x.Lemma()
	if err != api.OK || len(lemma.Lits) != n || len(lemma.Derivs) != 1 || lemma.Derivs[0].Kind != api.DerivClash {
		t.Fatalf("O5: a chain: %d literals, %d steps, %d", len(lemma.Lits), len(lemma.Derivs), err)
	}
	g.Atoms = append(g.Atoms, g.Atoms[0])
	if _, err := combine.New(g); err != api.ErrGoal {
		t.Errorf("Limits: one atom too many: %d", err)
	}
}

// TestTower: a function at itself, many times over: if x is f(x), all are x.
func TestTower(t *testing.T) {
	const n = 30000
	nodes := []api.GNode{app(1, 0)}
	for i := range n {
		nodes = append(nodes, app(1, 1, i+2))
	}
	g := goal(nodes, con(api.ConLe, "0", mono(2, "1"), mono(3, "-1")), con(api.ConLe, "0", mono(2, "-1"), mono(3, "1")), con(api.ConLt, "0", mono(2, "1"), mono(n+2, "-1")))
	x := theory(t, g, 1)
	if got := x.Implied(); len(got) != 0 {
		t.Fatalf("O7: a tower: %v", got)
	}
	x.Assert(2)
	values, err := x.World()
	if err != api.OK {
		t.Fatalf("O6: a tower: %d", err)
	}
	for i, v := range values[2:] {
		if v != values[2] {
			t.Fatalf("O6: the floor %d of a tower is worth %v, not %v", i, v, values[2])
		}
	}
	if got := x.Implied(); !slices.Equal(got, []int{-3}) {
		t.Fatalf("O7: a tower: %v", got)
	}
	x.Assert(3)
	lemma, err := x.Lemma()
	if err != api.OK || !slices.Equal(sorted(lemma.Lits...), []int{-3, -2, -1}) {
		t.Fatalf("O5: a tower: %v, %d", lemma.Lits, err)
	}
}

// ring is numbers of which none is above the next, nor the last one above the first, and things that they are mapped to; the last atoms say that neighbours among these are the same.
func ring(n int) api.Goal {
	var nodes []api.GNode
	var atoms []api.Atom
	for i := range n {
		nodes = append(nodes, app(1, i))
	}
	for i := range n {
		nodes = append(nodes, app(2, n, i+2))
		if i > 0 {
			atoms = append(atoms, con(api.ConLe, "0", mono(i+1, "1"), mono(i+2, "-1")))
		}
	}
	atoms = append(atoms, con(api.ConLe, "0", mono(2, "-1"), mono(n+1, "1")))
	for i := range n - 1 {
		atoms = append(atoms, same(n+2+i, n+3+i))
	}
	return goal(nodes, atoms...)
}

// TestRing: many numbers are the same, each by all constraints.
func TestRing(t *testing.T) {
	const n = 120
	g := ring(n)
	x := theory(t, g)
	hold(x, 1, n)
	held := slices.Collect(func(yield func(int) bool) {
		for lit := 1; lit <= n && yield(lit); lit++ {
		}
	})
	if !settled(t, g, held, x) {
		t.Fatal("O4: a ring: false")
	}
	if got := x.Implied(); len(got) != n-1 || got[0] != n+1 || got[n-2] != 2*n-1 {
		t.Fatalf("O7: a ring: %v", got)
	}
	x.Assert(-n - n/2)
	held = append(held, -n-n/2)
	if settled(t, g, held, x) {
		t.Fatal("O4: a ring: true")
	}
	if lemma, _ := x.Lemma(); len(lemma.Lits) != n+1 {
		t.Fatalf("O5: a ring: %v", lemma.Lits)
	}
	x.Undo(2)
	x.Assert(-n - n/2)
	if !settled(t, g, append(held[:n-1:n-1], -n-n/2), x) {
		t.Fatal("O4: a ring that is not closed: false")
	}
}

// family is things, and numbers that a function has at them, with bounds that keep these apart: the literals 1 to 2n. Then come atoms by which two of the things are the same.
func family(n int) ([]api.GNode, []api.Atom) {
	var nodes []api.GNode
	var atoms []api.Atom
	for i := range n {
		nodes = append(nodes, app(2, i))
	}
	for i := range n {
		nodes = append(nodes, app(1, n, i+2))
		atoms = append(atoms, con(api.ConLe, strconv.Itoa(2*i), mono(n+i+2, "-1")), con(api.ConLe, strconv.Itoa(-2*i-1), mono(n+i+2, "1")))
	}
	for i := range n {
		for j := range i {
			atoms = append(atoms, same(j+2, i+2))
		}
	}
	return nodes, atoms
}

// TestFamily: many applications of one function, of which any two can turn out to be the same: more than the tableau keeps differences for.
func TestFamily(t *testing.T) {
	const n = 25
	nodes, atoms := family(n)
	g := goal(nodes, atoms...)
	x := theory(t, g)
	for lit := 2*n + 1; lit <= len(g.Atoms); lit += 3 {
		atom := g.Atoms[lit-1]
		low, high := atom.L-2, atom.R-2
		held := []int{2*low + 2, lit, 2*high + 1}
		for _, l := range held {
			x.Assert(l)
		}
		if settled(t, g, held, x) {
			t.Fatalf("O4: a family: %v held: true", held)
		}
		if x.Undo(1); !settled(t, g, held[:2], x) {
			t.Fatalf("O4: a family: %v held: false", held[:2])
		}
		x.Undo(2)
	}
	// From each to the next: all are one then.
	for i := 1; i < n; i++ {
		x.Assert(2*n + i*(i-1)/2 + i)
	}
	values, err := x.World()
	if err != api.OK || values[n+2] != values[2*n+1] {
		t.Fatalf("O6: a family that is one: %v, %d", values, err)
	}
	if fault := looseFault(g, values); fault != "" {
		t.Fatalf("O6: a family that is one: %s", fault)
	}
}

// TestTwoFamilies: what is known of one family stays known while very much is found out of another one.
func TestTwoFamilies(t *testing.T) {
	const n = 25
	nodes, atoms := family(n)
	first, last := len(nodes)+2, len(atoms)
	nodes = append(nodes, app(2, n+1), app(2, n+2), app(1, n+3, first), app(1, n+3, first+1))
	atoms = append(atoms, con(api.ConLe, "-5", mono(first+2, "1")), con(api.ConLe, "5", mono(first+3, "-1")), same(first, first+1), con(api.ConLt, "-5", mono(first+2, "1")), con(api.ConLe, "-4", mono(first+3, "1/2")))
	x := theory(t, goal(nodes, atoms...))
	hold(x, last+1, last+3)
	hold(x, 1, 2*n)
	got := x.Implied()
	if len(got) != n*(n-1)/2+2 || got[0] != -2*n-1 || got[len(got)-2] != -last-4 || got[len(got)-1] != last+5 {
		t.Fatalf("O7: two families: %d literals, %v", len(got), got)
	}
	x.Assert(last + 4)
	lemma, err := x.Lemma()
	if err != api.OK || !slices.Equal(opposites(lemma.Lits), []int{last + 2, last + 3, last + 4}) {
		t.Fatalf("O5: two families: %v, %d", lemma, err)
	}
}

// TestCrowd: many numbers that have little room, and all are to be apart.
func TestCrowd(t *testing.T) {
	const n = 150
	var nodes []api.GNode
	var atoms []api.Atom
	for i := range n {
		nodes = append(nodes, app(1, i))
		atoms = append(atoms, con(api.ConLe, "-1", mono(i+2, "1")), con(api.ConLt, "1/2", mono(i+2, "-1")))
	}
	for i := range n {
		nodes = append(nodes, app(2, n, i+2))
	}
	var held []int
	for i := range n {
		held = append(held, 2*i+1, 2*i+2)
		for j := range i {
			atoms = append(atoms, same(n+2+j, n+2+i))
			held = append(held, -len(atoms))
		}
	}
	g := goal(nodes, atoms...)
	x := theory(t, g, held...)
	values, err := x.World()
	world(t, g, held, values, err)
}

// TestSums: all sums of two numbers of many, and a thing for each: the numbers are to be such that no two sums are the same, wherever there is room for them.
func TestSums(t *testing.T) {
	const n = 24
	var nodes []api.GNode
	var atoms []api.Atom
	for i := range n {
		nodes = append(nodes, app(1, i))
		atoms = append(atoms, con(api.ConLe, "0", mono(i+2, "1")), con(api.ConLe, "-1", mono(i+2, "-1")))
	}
	for i := range n {
		for j := range i {
			nodes = append(nodes, linNode(form("0", mono(j+2, "1"), mono(i+2, "1"))))
			nodes = append(nodes, app(2, n, len(nodes)+1))
			if len(nodes) > n+2 {
				atoms = append(atoms, same(n+3, len(nodes)+1))
			}
		}
	}
	g := goal(nodes, atoms...)
	for _, bounds := range [][]int{nil, {0}, {1}, {0, 1}} {
		var held []int
		for _, bound := range bounds {
			for i := range n {
				held = append(held, 2*i+bound+1)
			}
		}
		for lit := 2*n + 1; lit <= len(atoms); lit++ {
			held = append(held, -lit)
		}
		x := theory(t, g, held...)
		values, err := x.World()
		world(t, g, held, values, err)
	}
}

// TestLongNumbers: numbers with hundreds of digits.
func TestLongNumbers(t *testing.T) {
	long := "1" + strings.Repeat("234567890", 40)
	tiny := "1/" + long
	g := goal([]api.GNode{app(1, 0), app(1, 1), linNode(form(tiny, mono(2, long))), linNode(form("0", mono(3, "1"))), app(2, 2, 4), app(2, 2, 5)},
		con(api.ConLe, tiny, mono(2, long), mono(3, "-1")), con(api.ConLe, "-"+tiny, mono(2, "-"+long), mono(3, "1")), same(6, 7), con(api.ConLe, "-"+long, mono(3, tiny)), con(api.ConLt, long, mono(3, "-"+tiny)))
	if can(t, g, 1, 2, -3) || !can(t, g, 1, -3, 4) || can(t, g, 4, 5) || !can(t, g, 1, 2, 3, -4) {
		t.Error("O4, P0.6: long numbers")
	}
	if got, want := theory(t, g, 1, 2).Implied(), plainImplied(t, g, []int{1, 2}); !slices.Equal(got, []int{3}) || !slices.Equal(want, got) {
		t.Errorf("O7: long numbers: %v, %v", got, want)
	}
}
