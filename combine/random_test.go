package combine_test

import (
	"math/rand"
	"reflect"
	"slices"
	"strconv"
	"testing"

	"arbiter/api"
	"arbiter/combine"
	"arbiter/lin"
)

// TestRandom: small goals of all kinds, any literals.
func TestRandom(t *testing.T) {
	for seed := range int64(2000) {
		rng := rand.New(rand.NewSource(seed))
		g := randomGoal(rng)
		lookOver(t, g, randomLits(rng, g, 10))
	}
}

// lookOver holds all that a theory answers against the document's words.
func lookOver(t *testing.T, g api.Goal, held []int) bool {
	t.Helper()
	x := theory(t, g, held...)
	ok := settled(t, g, held, x)
	if !ok {
		lemma, _ := x.Lemma()
		bare(t, g, lemma)
	}
	if got, want := x.Implied(), plainImplied(t, g, held); !slices.Equal(got, want) {
		t.Fatalf("O7: %v held: %v, want %v\n%v", held, got, want, g)
	}
	return ok
}

// knot makes a goal in which much can turn out to be the same: functions from numbers to numbers and things, and back, at differences and sums.
func knot(rng *rand.Rand) api.Goal {
	const f, h, u, k, p = 100, 101, 102, 103, 104
	g := goal([]api.GNode{app(1, 0), app(1, 1), app(1, 2), app(2, 3), app(0, 4)})
	g.Atoms = append(g.Atoms, isTrue(6))
	node := func(sort int) int {
		n, _ := someNode(rng, g.Nodes, sort)
		return n
	}
	for range 4 + rng.Intn(8) {
		var n api.GNode
		switch rng.Intn(7) {
		case 0, 1:
			n = app(1, f, node(1))
		case 2:
			n = app(2, u, node(1))
		case 3:
			n = app(1, h, node(2))
		case 4:
			n = app(0, k, node(2), node(1))
			g.Atoms = append(g.Atoms, isTrue(len(g.Nodes)))
		case 5:
			n = app(1, p, node(0))
		default:
			n = linNode(randomForm(rng, g.Nodes, 2))
		}
		g.Nodes = append(g.Nodes, n)
	}
	for i, n := range g.Nodes {
		for j, m := range g.Nodes[:i] {
			switch {
			case n.Sort != m.Sort || rng.Intn(2) == 0:
			case n.Sort == 2:
				g.Atoms = append(g.Atoms, same(j, i))
			case n.Sort == api.SortReal && n.Kind != api.NodeLin && m.Kind != api.NodeLin:
				g.Atoms = append(g.Atoms, con(api.ConLe, "0", mono(j, "1"), mono(i, "-1")), con(api.ConLe, "0", mono(j, "-1"), mono(i, "1")))
			}
		}
	}
	for range rng.Intn(4) {
		if atom, ok := randomAtom(rng, g.Nodes); ok {
			g.Atoms = append(g.Atoms, atom)
		}
	}
	return g
}

// someValues makes loose values of few numbers.
func someValues(rng *rand.Rand, g api.Goal) []api.Value {
	values := make([]api.Value, len(g.Nodes))
	tables := map[string]api.Value{}
	for i, n := range g.Nodes {
		value := api.Value{Sort: n.Sort, N: rng.Intn(2)}
		if n.Sort == api.SortReal {
			value = api.Value{Sort: n.Sort, R: strconv.Itoa(rng.Intn(2))}
		}
		switch n.Kind {
		case api.NodeTrue, api.NodeFalse:
			value.N = 1 - i
		case api.NodeLin:
			value.R, _ = lin.Value(n.Lin, reals(values))
		case api.NodeApp:
			key := strconv.Itoa(n.Fun)
			for _, arg := range n.Args {
				key += " " + strconv.Itoa(values[arg].N) + ":" + values[arg].R
			}
			if old, known := tables[key]; known {
				value = old
			}
			tables[key] = value
		}
		values[i] = value
	}
	return values
}

// TestKnots: literals that hold under values can be true together. With one turned round, they clash for one reason after the other, as each is taken away: most of the later ones need both theories.
func TestKnots(t *testing.T) {
	clashes, long := 0, 0
	for seed := range int64(150) {
		rng := rand.New(rand.NewSource(seed))
		g := knot(rng)
		values := someValues(rng, g)
		if fault := looseFault(g, values); fault != "" {
			t.Fatalf("the test's values: %s", fault)
		}
		var held []int
		for _, atom := range rng.Perm(len(g.Atoms)) {
			for _, lit := range []int{atom + 1, -atom - 1} {
				if plainHolds(g, values, lit) {
					held = append(held, lit)
				}
			}
		}
		if !lookOver(t, g, held) {
			t.Fatalf("O4, O8: %v held: false, though all hold under %v\n%v", held, values, g)
		}
		for range 4 {
			n, most := unravel(t, rng, g, values, slices.Clone(held))
			clashes += n
			if most > 1 {
				long++
			}
		}
	}
	if clashes < 500 || long < 150 {
		t.Errorf("the test is too tame: %d clashes, %d of both theories", clashes, long)
	}
}

// unravel turns a literal round, and takes another one out of each lemma that there is then, until there is none. No values may make a lemma false, those neither under which all the others hold. It tells how many there were, and how many steps the longest had.
func unravel(t *testing.T, rng *rand.Rand, g api.Goal, values []api.Value, held []int) (clashes, most int) {
	t.Helper()
	turned := rng.Intn(len(held))
	held[turned] *= -1
	last := held[turned]
	for {
		x := theory(t, g, held...)
		if settled(t, g, held, x) {
			return clashes, most
		}
		clashes++
		lemma, _ := x.Lemma()
		bare(t, g, lemma)
		if !slices.ContainsFunc(lemma.Lits, func(lit int) bool { return !plainHolds(g, values, -lit) }) {
			t.Fatalf("O9: the lemma %v is false under %v\n%v", lemma, values, g)
		}
		most = max(most, len(lemma.Derivs))
		rng.Shuffle(len(lemma.Lits), func(i, j int) { lemma.Lits[i], lemma.Lits[j] = lemma.Lits[j], lemma.Lits[i] })
		i := slices.IndexFunc(lemma.Lits, func(lit int) bool { return lit != -last })
		if i < 0 {
			return clashes, most
		}
		held = slices.DeleteFunc(held, func(lit int) bool { return lit == -lemma.Lits[i] })
	}
}

// TestSessions: literals come and go, and all is asked in any order; what is answered hangs on those that are held alone.
func TestSessions(t *testing.T) {
	for seed := range int64(80) {
		rng := rand.New(rand.NewSource(seed))
		g := knot(rng)
		if rng.Intn(3) == 0 {
			g = randomGoal(rng)
		}
		if len(g.Atoms) == 0 {
			continue
		}
		x, held := theory(t, g), []int(nil)
		for range 40 {
			switch n := rng.Intn(len(held) + 1); {
			case rng.Intn(3) > 0:
				lit := (1 + rng.Intn(len(g.Atoms))) * (1 - 2*rng.Intn(2))
				if err := x.Assert(lit); err != api.OK {
					t.Fatalf("O3: Assert(%d): %d", lit, err)
				}
				held = append(held, lit)
			case rng.Intn(4) > 0:
				n = min(n, 3)
				fallthrough
			default:
				if err := x.Undo(n); err != api.OK {
					t.Fatalf("O3: Undo(%d): %d", n, err)
				}
				held = held[:len(held)-n]
			}
			askAny(t, rng, g, held, x)
		}
	}
}

// askAny asks one thing, and holds the answer against a theory that was told nothing else.
func askAny(t *testing.T, rng *rand.Rand, g api.Goal, held []int, x *combine.Theory) {
	t.Helper()
	switch rng.Intn(8) {
	case 0:
		if got := x.Check(); got != can(t, g, held...) {
			t.Fatalf("O4, O11: %v held: %v\n%v", held, got, g)
		}
	case 1:
		settled(t, g, held, x)
	case 2:
		if got, want := x.Implied(), plainImplied(t, g, held); !slices.Equal(got, want) {
			t.Fatalf("O7, O11: %v held: %v, want %v\n%v", held, got, want, g)
		}
	case 3:
		if lemma, err := x.Lemma(); err != api.ErrState {
			follows(t, g, held, lemma, err)
			bare(t, g, lemma)
		} else if !can(t, g, held...) {
			t.Fatalf("O5, O11: %v held: no lemma\n%v", held, g)
		}
	case 4:
		if values, err := x.World(); err != api.ErrState {
			world(t, g, held, values, err)
		} else if can(t, g, held...) {
			t.Fatalf("O6, O11: %v held: no values\n%v", held, g)
		}
	}
}

// TestTwins: two theories that are told and asked the same answer the same, one word and all, and know nothing of one another.
func TestTwins(t *testing.T) {
	for seed := range int64(50) {
		rng := rand.New(rand.NewSource(seed))
		g := knot(rng)
		x, y, other := theory(t, g), theory(t, g), theory(t, g)
		count := 0
		for range 25 {
			if n := rng.Intn(count + 1); rng.Intn(3) == 0 {
				x.Undo(n)
				y.Undo(n)
				count -= n
			}
			lit := (1 + rng.Intn(len(g.Atoms))) * (1 - 2*rng.Intn(2))
			x.Assert(lit)
			other.Assert(-lit)
			other.Implied()
			y.Assert(lit)
			count++
			if a, b := answers(x), answers(y); !reflect.DeepEqual(a, b) {
				t.Fatalf("P0.5: %v, then %v\n%v", a, b, g)
			}
		}
	}
}

// answers asks all there is to ask.
func answers(x *combine.Theory) []any {
	lemma, notLemma := x.Lemma()
	values, notWorld := x.World()
	return []any{x.Check(), lemma, notLemma, values, notWorld, x.Implied()}
}
