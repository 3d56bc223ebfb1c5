package cnf_test

import (
	"math/rand"
	"slices"
	"testing"

	"arbiter/api"
	"arbiter/cnf"
)

// The chapter's examples 1 to 3, and each operator by itself.
func TestClauses(t *testing.T) {
	for i, c := range []struct {
		g    api.Goal
		want api.Cnf
		lits []int
	}{
		{
			goal(1, []api.Form{atomForm(0), f(api.FormNot, 0)}, nil, []int{1}),
			api.Cnf{Vars: 1, Tops: []int{-1}}, []int{1, -1},
		},
		{
			goal(2, []api.Form{atomForm(0), atomForm(1), f(api.FormAnd, 0, 1), f(api.FormNot, 2), f(api.FormOr, 3, 0)}, []int{4}, []int{2, 3}),
			api.Cnf{Vars: 4, Clauses: [][]int{{-3, 1}, {-3, 2}, {3, -1, -2}, {4, 3}, {4, -1}, {-4, -3, 1}, {4}}, Tops: []int{3, -3}}, []int{1, 2, 3, -3, 4},
		},
		{goal(0, []api.Form{f(api.FormTrue)}, nil, []int{0, 0}), api.Cnf{Vars: 1, Clauses: [][]int{{1}}, Tops: []int{1, 1}}, []int{1}},
		{goal(0, nil, nil, nil), api.Cnf{}, nil},
		{goal(3, nil, nil, nil), api.Cnf{Vars: 3}, nil},
		{
			goal(2, []api.Form{atomForm(1), f(api.FormAnd, 0, 0, 0)}, nil, []int{1}),
			api.Cnf{Vars: 3, Clauses: [][]int{{-3, 2}, {-3, 2}, {-3, 2}, {3, -2, -2, -2}}, Tops: []int{3}}, []int{2, 3},
		},
		{
			goal(2, []api.Form{atomForm(1), atomForm(0), f(api.FormNot, 0), f(api.FormOr, 2, 1, 0)}, nil, nil),
			api.Cnf{Vars: 3, Clauses: [][]int{{3, 2}, {3, -1}, {3, -2}, {-3, -2, 1, 2}}}, []int{2, 1, -2, 3},
		},
		{
			goal(2, []api.Form{atomForm(1), atomForm(0), f(api.FormIff, 0, 1), f(api.FormIff, 2, 2)}, []int{3, 3, 0}, nil),
			api.Cnf{Vars: 4, Clauses: [][]int{
				{-3, -2, 1}, {-3, 2, -1}, {3, 2, 1}, {3, -2, -1}, {-4, -3, 3}, {-4, 3, -3}, {4, 3, 3}, {4, -3, -3}, {4}, {4}, {2},
			}}, []int{2, 1, 3, 4},
		},
		{
			goal(3, []api.Form{atomForm(2), f(api.FormNot, 0), atomForm(0), atomForm(1), f(api.FormIte, 1, 2, 3)}, []int{1}, []int{4, 1}),
			api.Cnf{Vars: 4, Clauses: [][]int{{-4, 3, 1}, {-4, -3, 2}, {4, 3, -1}, {4, -3, -2}, {-3}}, Tops: []int{4, -3}}, []int{3, -3, 1, 2, 4},
		},
		{
			goal(1, []api.Form{f(api.FormTrue), f(api.FormNot, 0), f(api.FormNot, 1), f(api.FormTrue)}, nil, []int{1, 2}),
			api.Cnf{Vars: 3, Clauses: [][]int{{2}, {3}}, Tops: []int{-2, 2}}, []int{2, -2, 2, 3},
		},
	} {
		if got, lits := clauses(t, c.g); !sameCnf(got, c.want) || !slices.Equal(lits, c.lits) {
			t.Errorf("F2: the goal %d: %+v, %v, want %+v, %v", i, got, lits, c.want, c.lits)
		}
	}
}

func TestExtend(t *testing.T) {
	first := goal(1, []api.Form{atomForm(0), f(api.FormNot, 0)}, nil, []int{1})
	second := goal(2, []api.Form{atomForm(0), atomForm(1), f(api.FormAnd, 0, 1), f(api.FormNot, 2), f(api.FormOr, 3, 0)}, []int{4}, []int{2, 3})
	for _, c := range []struct {
		g     api.Goal
		atoms []bool
		want  []int
	}{
		{first, []bool{true}, []int{1}},
		{first, []bool{false}, []int{-1}},
		{second, []bool{true, false}, []int{1, -2, -3, 4}},
		{second, []bool{true, true}, []int{1, 2, 3, 4}},
		{goal(0, []api.Form{f(api.FormTrue)}, nil, nil), nil, []int{1}},
		{goal(0, nil, nil, nil), nil, nil},
	} {
		if got, e := cnf.Extend(c.g, c.atoms); e != api.OK || !slices.Equal(got, c.want) {
			t.Errorf("F3: with %v: %v, %d, want %v", c.atoms, got, e, c.want)
		}
		for _, atoms := range [][]bool{append(slices.Clone(c.atoms), true), c.atoms[:max(0, len(c.atoms)-1)]} {
			if got, e := cnf.Extend(c.g, atoms); len(atoms) != len(c.atoms) && (e != api.ErrCount || len(got) > 0) {
				t.Errorf("F3: with %v: %v, %d", atoms, got, e)
			}
		}
	}
}

// F2, F3: what is no goal; ErrGoal comes ahead of ErrCount.
func TestNoGoal(t *testing.T) {
	ite := goal(1, []api.Form{atomForm(0), f(api.FormIte, 0, 0)}, nil, nil)
	side := goal(1, []api.Form{atomForm(0)}, []int{1}, nil)
	top := goal(1, []api.Form{atomForm(0)}, nil, []int{-1})
	atom := goal(1, []api.Form{atomForm(1)}, nil, nil)
	later := goal(1, []api.Form{f(api.FormNot, 1), atomForm(0)}, nil, nil)
	for i, g := range []api.Goal{{}, ite, side, top, atom, later} {
		if c, lits, e := cnf.Clauses(g); e != api.ErrGoal || !sameCnf(c, api.Cnf{}) || len(lits) > 0 {
			t.Errorf("F2: no goal, %d: %+v, %v, %d", i, c, lits, e)
		}
		for _, atoms := range [][]bool{nil, {true}, {true, false}} {
			if lits, e := cnf.Extend(g, atoms); e != api.ErrGoal || len(lits) > 0 {
				t.Errorf("F3: no goal, %d: %v, %d", i, lits, e)
			}
		}
	}
}

// plainClauses goes by F2's words, form by form.
func plainClauses(g api.Goal) (api.Cnf, []int) {
	c := api.Cnf{Vars: len(g.Atoms)}
	var lits []int
	for _, form := range g.Forms {
		var a []int
		for _, arg := range form.Args {
			a = append(a, lits[arg])
		}
		if form.Op == api.FormAtom {
			lits = append(lits, form.Atom+1)
			continue
		}
		if form.Op == api.FormNot {
			lits = append(lits, -a[0])
			continue
		}
		c.Vars++
		v := c.Vars
		lits = append(lits, v)
		switch form.Op {
		case api.FormTrue:
			c.Clauses = append(c.Clauses, []int{v})
		case api.FormAnd, api.FormOr:
			sign := 1
			if form.Op == api.FormOr {
				sign = -1
			}
			last := []int{sign * v}
			for _, lit := range a {
				c.Clauses = append(c.Clauses, []int{-sign * v, sign * lit})
				last = append(last, -sign*lit)
			}
			c.Clauses = append(c.Clauses, last)
		case api.FormIff:
			c.Clauses = append(c.Clauses, []int{-v, -a[0], a[1]}, []int{-v, a[0], -a[1]}, []int{v, a[0], a[1]}, []int{v, -a[0], -a[1]})
		case api.FormIte:
			c.Clauses = append(c.Clauses, []int{-v, -a[0], a[1]}, []int{-v, a[0], a[2]}, []int{v, -a[0], -a[1]}, []int{v, a[0], -a[2]})
		}
	}
	for _, s := range g.Sides {
		c.Clauses = append(c.Clauses, []int{lits[s]})
	}
	for _, r := range g.Roots {
		c.Tops = append(c.Tops, lits[r])
	}
	return c, lits
}

func TestClausesByChance(t *testing.T) {
	for seed := range int64(2000) {
		g := someGoal(rand.New(rand.NewSource(seed)))
		got, lits := clauses(t, g)
		if want, wantLits := plainClauses(g); !sameCnf(got, want) || !slices.Equal(lits, wantLits) {
			t.Fatalf("F2: of %+v: %+v, %v, want %+v, %v", g.Forms, got, lits, want, wantLits)
		}
	}
}

// F8: under every assignment of the atoms there is one of the others that makes the clauses true, and it is Extend's.
func TestMeaning(t *testing.T) {
	for seed := range int64(250) {
		g := someGoal(rand.New(rand.NewSource(seed)))
		c, _ := clauses(t, g)
		split := len(c.Clauses) - len(g.Sides)
		for _, atoms := range assignments(len(g.Atoms)) {
			var met [][]bool
			for _, rest := range assignments(c.Vars - len(atoms)) {
				if all := append(slices.Clone(atoms), rest...); allHold(c.Clauses[:split], all) {
					met = append(met, all)
				}
			}
			lits, e := cnf.Extend(g, atoms)
			if e != api.OK || len(met) != 1 || len(lits) != c.Vars {
				t.Fatalf("F8: of %+v with %v: %d assignments, Extend tells %v, %d", g.Forms, atoms, len(met), lits, e)
			}
			for i, lit := range lits {
				if max(lit, -lit) != i+1 || !litHolds(lit, met[0]) {
					t.Fatalf("F8: of %+v with %v: Extend tells %v, want %v", g.Forms, atoms, lits, met[0])
				}
			}
			forms := holds(t, g, atoms)
			sides := !slices.ContainsFunc(g.Sides, func(s int) bool { return !forms[s] })
			if allHold(c.Clauses[split:], met[0]) != sides {
				t.Fatalf("F8: of %+v with %v: the clauses of the sides %v", g.Forms, atoms, g.Sides)
			}
			for i, r := range g.Roots {
				if litHolds(c.Tops[i], met[0]) != forms[r] {
					t.Fatalf("F8: of %+v with %v: the top %d", g.Forms, atoms, i)
				}
			}
		}
	}
}

// As many atoms and forms as a goal can have.
func TestLargeGoal(t *testing.T) {
	g := goal(0, nil, nil, nil)
	atom := goal(1, nil, nil, nil).Atoms[0]
	for i := range api.MaxAtoms {
		g.Atoms = append(g.Atoms, atom)
		g.Forms = append(g.Forms, atomForm(i))
	}
	for len(g.Forms) < api.MaxForms-1 {
		last := len(g.Forms) - 1
		g.Forms = append(g.Forms, f(api.FormIff, last, last-1))
	}
	all := make([]int, len(g.Forms))
	for i := range all {
		all[i] = i
	}
	g.Forms = append(g.Forms, f(api.FormOr, all...))
	g.Roots = []int{len(all)}
	c, lits := clauses(t, g)
	if c.Vars != api.MaxForms || len(c.Clauses) != 4*(len(all)-api.MaxAtoms)+len(all)+1 || lits[len(all)] != api.MaxForms {
		t.Errorf("F2: %d variables, %d clauses", c.Vars, len(c.Clauses))
	}
	if last := c.Clauses[len(c.Clauses)-1]; len(last) != len(all)+1 || last[0] != -api.MaxForms || last[1] != 1 {
		t.Errorf("F2: the last clause has %d literals", len(last))
	}
	ext, e := cnf.Extend(g, make([]bool, api.MaxAtoms))
	if e != api.OK || len(ext) != c.Vars || ext[0] != -1 || ext[c.Vars-1] != c.Vars {
		t.Errorf("F3: %d literals, %d", len(ext), e)
	}
	text, e := cnf.Show(c)
	if e != api.OK {
		t.Fatalf("F6: %d", e)
	}
	if again, e, at := cnf.Read(text); e != api.OK || at != 0 || !sameCnf(again, c) {
		t.Errorf("F10: a large text is read as another: %d at %d", e, at)
	}
	if once := tidy(t, c); !sameCnf(tidy(t, once), once) || once.Vars != c.Vars {
		t.Error("F9: tidy twice")
	}
}
