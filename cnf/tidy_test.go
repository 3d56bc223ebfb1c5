package cnf_test

import (
	"math"
	"math/rand"
	"slices"
	"testing"

	"arbiter/api"
	"arbiter/cnf"
)

func TestTidy(t *testing.T) {
	for i, c := range []struct{ in, want api.Cnf }{
		{api.Cnf{Vars: 3, Clauses: [][]int{{2, -1, 2}, {3, -3}, {-1, 2}, {}, {1}}}, api.Cnf{Vars: 3, Clauses: [][]int{{}, {1}, {-1, 2}}}},
		{api.Cnf{}, api.Cnf{}},
		{api.Cnf{Vars: 5, Tops: []int{3, -3, 3, 1}}, api.Cnf{Vars: 5, Tops: []int{3, -3, 3, 1}}},
		{api.Cnf{Vars: 1, Clauses: [][]int{{}, {}}}, api.Cnf{Vars: 1, Clauses: [][]int{{}}}},
		{api.Cnf{Vars: 2, Clauses: [][]int{{1, 2, -1}, {-2, 1, 2}, {-1, 1}}}, api.Cnf{Vars: 2}},
		{
			api.Cnf{Vars: 12, Clauses: [][]int{{-2}, {12}, {2}, {-12}, {-1}, {1}, {3}, {1, -12}, {1, 2}, {1, 12}, {1, -2}, {-1, 2}, {12, 3}}},
			api.Cnf{Vars: 12, Clauses: [][]int{{1}, {1, 2}, {1, -2}, {1, 12}, {1, -12}, {-1}, {-1, 2}, {2}, {-2}, {3}, {3, 12}, {12}, {-12}}},
		},
		{
			api.Cnf{Vars: 3, Clauses: [][]int{{3, 2, 1}, {2, 1}, {1, 3}, {3, 1, 2}, {2, 3}, {2, -3}, {-3, 1, 2}}},
			api.Cnf{Vars: 3, Clauses: [][]int{{1, 2}, {1, 2, 3}, {1, 2, -3}, {1, 3}, {2, 3}, {2, -3}}},
		},
	} {
		if got := tidy(t, c.in); !sameCnf(got, c.want) {
			t.Errorf("F5: %d: %+v, want %+v", i, got, c.want)
		}
	}
}

// earlier goes by the chapter's words.
func earlier(a, b int) bool {
	if max(a, -a) != max(b, -b) {
		return max(a, -a) < max(b, -b)
	}
	return a > b
}

func clauseEarlier(a, b []int) bool {
	for i := range min(len(a), len(b)) {
		if a[i] != b[i] {
			return earlier(a[i], b[i])
		}
	}
	return len(a) < len(b)
}

// plainTidy takes clauses and literals in one by one, each in its place.
func plainTidy(c api.Cnf) api.Cnf {
	out := api.Cnf{Vars: c.Vars, Tops: c.Tops}
	for _, clause := range c.Clauses {
		var lits []int
		idle := false
		for _, lit := range clause {
			idle = idle || slices.Contains(clause, -lit)
			at := 0
			for at < len(lits) && earlier(lits[at], lit) {
				at++
			}
			if at == len(lits) || lits[at] != lit {
				lits = slices.Insert(lits, at, lit)
			}
		}
		at := 0
		for at < len(out.Clauses) && clauseEarlier(out.Clauses[at], lits) {
			at++
		}
		if !idle && (at == len(out.Clauses) || !slices.Equal(out.Clauses[at], lits)) {
			out.Clauses = slices.Insert(out.Clauses, at, lits)
		}
	}
	return out
}

// F5, F9: by chance.
func TestTidyByChance(t *testing.T) {
	for seed := range int64(1500) {
		rng := rand.New(rand.NewSource(seed))
		c := someCnf(rng)
		got := tidy(t, c)
		if want := plainTidy(c); !sameCnf(got, want) {
			t.Fatalf("F5: of %+v: %+v, want %+v", c, got, want)
		}
		if again := tidy(t, got); !sameCnf(again, got) {
			t.Fatalf("F9: tidy twice of %+v: %+v", c, again)
		}
		for _, truths := range assignments(c.Vars) {
			if allHold(c.Clauses, truths) != allHold(got.Clauses, truths) {
				t.Fatalf("F9: of %+v under %v", c, truths)
			}
		}
		shuffled := cloneCnf(c)
		for range rng.Intn(4) {
			if len(c.Clauses) > 0 {
				twice := slices.Clone(c.Clauses[rng.Intn(len(c.Clauses))])
				rng.Shuffle(len(twice), func(i, j int) { twice[i], twice[j] = twice[j], twice[i] })
				shuffled.Clauses = append(shuffled.Clauses, twice)
			}
		}
		rng.Shuffle(len(shuffled.Clauses), func(i, j int) {
			shuffled.Clauses[i], shuffled.Clauses[j] = shuffled.Clauses[j], shuffled.Clauses[i]
		})
		if same := tidy(t, shuffled); !sameCnf(same, got) {
			t.Fatalf("F9: of %+v in another order: %+v, want %+v", c, same, got)
		}
	}
}

// F4 to F6: what is clauses, and what is none.
func TestCheck(t *testing.T) {
	for _, c := range []api.Cnf{
		{},
		{Vars: api.MaxVars},
		{Vars: 1, Clauses: [][]int{nil, {}, {1, -1, 1}}, Tops: []int{-1, 1}},
		{Vars: api.MaxVars, Clauses: [][]int{{api.MaxVars, -api.MaxVars}}, Tops: []int{-api.MaxVars, api.MaxVars}},
	} {
		if e := cnf.Check(c); e != api.OK {
			t.Errorf("F4: Check(%+v): %d", c, e)
		}
	}
	for _, c := range []api.Cnf{
		{Vars: -1},
		{Vars: math.MinInt},
		{Vars: api.MaxVars + 1},
		{Vars: math.MaxInt},
		{Vars: 1, Clauses: [][]int{{2}}},
		{Vars: 1, Clauses: [][]int{{1}, {-2}}},
		{Vars: 1, Clauses: [][]int{{1, 0}}},
		{Vars: 1, Clauses: [][]int{{math.MinInt}}},
		{Vars: 1, Clauses: [][]int{{math.MaxInt}}},
		{Vars: 0, Clauses: [][]int{{1}}},
		{Vars: 1, Tops: []int{0}},
		{Vars: 1, Tops: []int{1, 2}},
		{Vars: 1, Tops: []int{-2}},
		{Vars: 1, Tops: []int{math.MinInt}},
		{Vars: -5, Clauses: [][]int{{-1}}},
	} {
		if e := cnf.Check(c); e != api.ErrCnf {
			t.Errorf("F4: Check(%+v): %d", c, e)
		}
		if got, e := cnf.Tidy(c); e != api.ErrCnf || !sameCnf(got, api.Cnf{}) {
			t.Errorf("F5: Tidy(%+v): %+v, %d", c, got, e)
		}
		if text, e := cnf.Show(c); e != api.ErrCnf || text != "" {
			t.Errorf("F6: Show(%+v): %q, %d", c, text, e)
		}
	}
}

// Very many clauses, and very long ones.
func TestLargeTidy(t *testing.T) {
	c := api.Cnf{Vars: 300000}
	for i := range 300000 {
		v := i*7919%c.Vars + 1
		c.Clauses = append(c.Clauses, []int{v, -(v%c.Vars + 1), v})
	}
	var long []int
	for v := c.Vars; v > 0; v-- {
		long = append(long, v, v)
	}
	c.Clauses = append(c.Clauses, long, long, append(slices.Clone(long), -1))
	got := tidy(t, c)
	if len(got.Clauses) != 300001 || len(got.Clauses[0]) != c.Vars || !slices.Equal(got.Clauses[1], []int{1, -2}) {
		t.Fatalf("F5: %d clauses, the first of %d literals", len(got.Clauses), len(got.Clauses[0]))
	}
	// The clause of the last variable begins with -1: so it stands behind that of the first.
	for i, clause := range got.Clauses[3:] {
		if !slices.Equal(clause, []int{i + 2, -(i + 3)}) {
			t.Fatalf("F5: the clause %d is %v", i+3, clause)
		}
	}
	if !slices.Equal(got.Clauses[2], []int{-1, 300000}) {
		t.Errorf("F5: the clause 2 is %v", got.Clauses[2])
	}
}
