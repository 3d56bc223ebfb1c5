package decide_test

import (
	"reflect"
	"slices"
	"strconv"
	"testing"

	"arbiter/api"
	"arbiter/decide"
	"arbiter/prep"
)

const modelText = "(declare-sort U 0)(declare-fun f (U Real) U)(declare-fun g (Bool) Real)(declare-const a U)(declare-const x Real)(declare-const p Bool)(declare-const y Real)(assert (= (f a (+ x 1)) a))(assert (< (g (< x 0)) (g p)))"

// ofModel tells the bank and the goal of modelText, and values that go together: the nodes are true, false, a, x, x + 1, f(a, x + 1), x < 0, g of that, p, g(p).
func ofModel(t *testing.T) (api.Bank, api.Goal, []api.Value) {
	b, roots := bankOf(t, modelText)
	g, _ := prep.Goal(b, roots)
	real := func(r string) api.Value { return api.Value{Sort: 1, R: r} }
	values := make([]api.Value, len(g.Nodes))
	for i, n := range g.Nodes {
		values[i] = api.Value{Sort: n.Sort}
		if n.Sort == api.SortReal {
			values[i].R = "-3/2"
		}
		if n.Kind == api.NodeLin {
			values[i].R = "-1/2"
		}
		if n.Sort == 2 {
			values[i].N = 4
		}
	}
	values[0].N = 1
	for i, n := range g.Nodes {
		if n.Kind == api.NodeApp && n.Fun == 1 && g.Nodes[n.Args[0]].Kind == api.NodePick {
			values[n.Args[0]].N = 1
			values[i] = real("0")
		}
		if n.Kind == api.NodeApp && n.Fun == 1 && g.Nodes[n.Args[0]].Kind == api.NodeApp {
			values[i] = real("7")
		}
	}
	if fault := apart(g, values); fault != "" {
		t.Fatalf("the values do not go together: %s", fault)
	}
	return b, g, values
}

func TestModel(t *testing.T) {
	b, g, values := ofModel(t)
	real := func(r string) api.Value { return api.Value{Sort: 1, R: r} }
	four := api.Value{Sort: 2, N: 4}
	want := api.Model{Tables: []api.Table{
		{Rows: []api.Row{{Args: []api.Value{four, real("-1/2")}, Out: four}}, Else: api.Value{Sort: 2}},
		{Rows: []api.Row{{Args: []api.Value{{}}, Out: real("7")}}, Else: real("0")},
		{Else: four}, {Else: real("-3/2")}, {}, {Else: real("0")},
	}}
	m, err := decide.Model(b, g, values)
	if err != api.OK || !reflect.DeepEqual(m, want) {
		t.Errorf("P17.2: %v, %d, want %v", m, err, want)
	}
	if got, err := prep.Values(b, g, m); err != api.OK || !reflect.DeepEqual(got, values) {
		t.Errorf("P17.3: %v, %d, want %v", got, err, values)
	}
}

func TestModelRefuses(t *testing.T) {
	bank, goal, right := ofModel(t)
	node := func(kind, fun int) int {
		return slices.IndexFunc(goal.Nodes, func(n api.GNode) bool { return n.Kind == kind && n.Fun == fun })
	}
	type state struct {
		b      api.Bank
		g      api.Goal
		values []api.Value
	}
	for _, c := range []struct {
		why  string
		turn func(s *state)
		err  api.Errno
	}{
		{"no bank", func(s *state) { s.b.Terms[0].Op = 99; s.g = api.Goal{}; s.values = nil }, api.ErrOp},
		{"no bank, a sort", func(s *state) { s.b.Funs[0].Out = 7; s.g = api.Goal{}; s.values = nil }, api.ErrIndex},
		{"no goal", func(s *state) { s.g.Nodes = nil; s.values = nil }, api.ErrGoal},
		{"no goal, its roots", func(s *state) { s.g.Roots = []int{-1} }, api.ErrGoal},
		{"a function less", func(s *state) { s.b = api.Bank{Sorts: s.b.Sorts, Funs: s.b.Funs[:4]}; s.values = nil }, api.ErrGoal},
		{"another result", func(s *state) { s.b.Terms = nil; s.b.Funs[3].Out = 0 }, api.ErrGoal},
		{"another argument", func(s *state) { s.b.Terms = nil; s.b.Funs[1].Args[0] = 1 }, api.ErrGoal},
		{"an argument more", func(s *state) { s.b.Terms = nil; s.b.Funs[2].Args = []int{0} }, api.ErrGoal},
		{"an argument less", func(s *state) { s.b.Terms = nil; s.b.Funs[0].Args = []int{2} }, api.ErrGoal},
		{"no such sort", func(s *state) {
			s.g.Nodes = append(s.g.Nodes, api.GNode{Kind: api.NodePick, Sort: 3, Fun: -1})
			s.values = nil
		}, api.ErrGoal},
		{"a value less", func(s *state) { s.values = s.values[:len(s.values)-1]; s.values[0].N = 0 }, api.ErrCount},
		{"a value more", func(s *state) { s.values = append(s.values, api.Value{}) }, api.ErrCount},
		{"no values", func(s *state) { s.values = nil }, api.ErrCount},
		{"true is false", func(s *state) { s.values[0].N = 0 }, api.ErrModel},
		{"false is true", func(s *state) { s.values[1].N = 1 }, api.ErrModel},
		{"a truth that is neither", func(s *state) { s.values[node(api.NodePick, -1)].N = 2 }, api.ErrModel},
		{"another sort", func(s *state) { s.values[node(api.NodeApp, 3)] = api.Value{Sort: 2} }, api.ErrModel},
		{"an element below 0", func(s *state) { s.values[node(api.NodeApp, 2)].N = -1 }, api.ErrModel},
		{"no canonical number", func(s *state) { s.values[node(api.NodeApp, 3)].R = "-6/4" }, api.ErrModel},
		{"a number with an element", func(s *state) { s.values[node(api.NodeApp, 3)].N = 1 }, api.ErrModel},
		{"a form that is not met", func(s *state) { s.values[node(api.NodeLin, -1)].R = "1/2" }, api.ErrModel},
		{"two values at one argument", func(s *state) { s.values[node(api.NodeApp, 4)].N = 1 }, api.ErrModel},
		{"functions more", func(s *state) { s.b.Funs = append(s.b.Funs, api.Fun{Name: "z", Out: 2}) }, api.OK},
		{"a bank without terms", func(s *state) { s.b.Terms = nil }, api.OK},
		{"a pick that is not what it stands for", func(s *state) {
			s.values[node(api.NodePick, -1)].N = 0
			s.values[node(api.NodeApp, 4)].N = 1
		}, api.OK},
	} {
		b, g, values := ofModel(t)
		s := &state{b, g, values}
		c.turn(s)
		m, err := decide.Model(s.b, s.g, s.values)
		if err != c.err || err != api.OK && len(m.Tables) > 0 {
			t.Errorf("P17.2: %s: %v, %d, want %d", c.why, m, err, c.err)
		}
	}
	if _, err := decide.Model(bank, goal, right); err != api.OK {
		t.Errorf("P17.2: %d", err)
	}
}

// TestModelDigits: arguments whose numbers are written with the same digits are not the same.
func TestModelDigits(t *testing.T) {
	text := "(declare-fun f (Real Real) Real)"
	for i := range 30 {
		text += "(declare-const x" + strconv.Itoa(i) + " Real)"
	}
	text += "(assert (< 0"
	for i := range 30 {
		text += " x" + strconv.Itoa(i)
	}
	text += "))"
	for a := range 30 {
		text += "(assert (< (f x" + strconv.Itoa(a) + " x2) (f x0 x" + strconv.Itoa(a) + ") (f x1 x" + strconv.Itoa(a) + ") (f x" + strconv.Itoa(a) + " x12)))"
	}
	b, roots := bankOf(t, text)
	g, _ := prep.Goal(b, roots)
	values := make([]api.Value, len(g.Nodes))
	for i, n := range g.Nodes {
		values[i] = api.Value{Sort: n.Sort}
		if n.Sort == api.SortReal {
			values[i].R = strconv.Itoa(i)
		}
	}
	values[0].N = 1
	if fault := apart(g, values); fault != "" {
		t.Fatal(fault)
	}
	m, err := decide.Model(b, g, values)
	if got, _ := prep.Values(b, g, m); err != api.OK || !reflect.DeepEqual(got, values) {
		t.Errorf("P17.2: %d", err)
	}
}

// TestModelRandom: values of any structure go together and are found again; values that are changed are taken just if they go together.
func TestModelRandom(t *testing.T) {
	taken, refused := 0, 0
	for seed := range int64(300) {
		m := newMaker(seed)
		b, roots := m.roots(2, 3)
		g, _ := prep.Goal(b, roots)
		_, first, _, _ := decide.Terms(b, nil)
		for i, f := range b.Funs {
			first.Tables[i] = m.table(f)
		}
		values, err := prep.Values(b, g, first)
		if err != api.OK {
			t.Fatal(err)
		}
		for range 8 {
			got, err := decide.Model(b, g, values)
			fault := apart(g, values)
			if (err == api.OK) != (fault == "") || err != api.OK && err != api.ErrModel {
				t.Fatalf("P17.2: seed %d: %d, %s", seed, err, fault)
			}
			if err == api.OK {
				taken++
				m.worthIn(t, b, g, values, got)
			} else {
				refused++
			}
			m.spoil(values)
		}
	}
	if taken < 300 || refused < 300 {
		t.Errorf("too few of one kind: %d, %d", taken, refused)
	}
}

// worthIn looks over that the applications are worth in a structure what values say. (Picks may be worth something else where the sides are not true.)
func (m *maker) worthIn(t *testing.T, b api.Bank, g api.Goal, values []api.Value, model api.Model) {
	t.Helper()
	for i, n := range g.Nodes {
		if n.Kind != api.NodeApp {
			continue
		}
		out := model.Tables[n.Fun].Else
		for _, row := range model.Tables[n.Fun].Rows {
			if slices.EqualFunc(row.Args, n.Args, func(v api.Value, arg int) bool { return v == values[arg] }) {
				out = row.Out
				break
			}
		}
		if out != values[i] {
			t.Fatalf("P17.2: the node %d is worth %v, want %v", i, out, values[i])
		}
	}
}

func (m *maker) value(sort int) api.Value {
	v := api.Value{Sort: sort, N: m.rng.Intn(2)}
	if sort == api.SortReal {
		v.N, v.R = 0, []string{"0", "1", "2", "-1", "1/2"}[m.rng.Intn(5)]
	}
	return v
}

func (m *maker) table(f api.Fun) api.Table {
	table := api.Table{Else: m.value(f.Out)}
	for range m.rng.Intn(5) {
		row := api.Row{Out: m.value(f.Out)}
		for _, s := range f.Args {
			row.Args = append(row.Args, m.value(s))
		}
		table.Rows = append(table.Rows, row)
	}
	return table
}

func (m *maker) spoil(values []api.Value) {
	i := m.rng.Intn(len(values))
	values[i] = m.value(values[i].Sort)
}

// TestMemory: nothing that is handed in is changed or kept, no two lists of an answer share memory, and the same question has the same answer.
func TestMemory(t *testing.T) {
	for seed := range int64(60) {
		b, roots := newMaker(seed).roots(4, 2)
		same, sameRoots := newMaker(seed).roots(4, 2)
		g, _ := prep.Goal(b, roots)
		h, _ := prep.Goal(b, roots)
		v, _ := decide.Goal(g)
		w, _ := decide.Goal(h)
		if !reflect.DeepEqual(v, w) {
			t.Fatalf("P0.5: two answers: %v, %v", v, w)
		}
		_, m, p, _ := decide.Terms(b, roots)
		spoilAll(&v)
		if !reflect.DeepEqual(g, h) || !reflect.DeepEqual(b, same) || !slices.Equal(roots, sameRoots) {
			t.Fatal("P0.4: what was handed in is changed")
		}
		again, _ := decide.Goal(g)
		_, n, q, _ := decide.Terms(b, roots)
		if !reflect.DeepEqual(again, w) || !reflect.DeepEqual(m, n) || !reflect.DeepEqual(p, q) {
			t.Fatalf("P0.5: seed %d: another answer", seed)
		}
	}
}

// spoilAll fills the lists of a verdict and their spare room, one after the other, and looks that no other one changes.
func spoilAll(v *api.Verdict) {
	for i := range v.Proof.Steps {
		s := &v.Proof.Steps[i]
		for k := range s.Lits[:cap(s.Lits)] {
			s.Lits[:cap(s.Lits)][k] = 1000000 + i
		}
	}
	for i := range v.Proof.Steps {
		for _, lit := range v.Proof.Steps[i].Lits {
			if lit != 1000000+i {
				panic("P0.4: two steps share memory")
			}
		}
	}
	for i := range v.Proof.Lemmas {
		l := &v.Proof.Lemmas[i]
		for _, lit := range l.Lits {
			if lit >= 1000000 {
				panic("P0.4: a lemma shares memory with a step")
			}
		}
		for k := range l.Derivs {
			d := &l.Derivs[k]
			for x := range d.Up[:cap(d.Up)] {
				d.Up[:cap(d.Up)][x].Ref = 999
			}
			for _, c := range d.Down {
				if c.Ref == 999 {
					panic("P0.4: Up and Down share memory")
				}
			}
		}
		for k := range l.Lits[:cap(l.Lits)] {
			l.Lits[:cap(l.Lits)][k] = 1000000
		}
	}
	for k := range v.Proof.Failed[:cap(v.Proof.Failed)] {
		v.Proof.Failed[:cap(v.Proof.Failed)][k] = 7
	}
	for k := range v.Lits[:cap(v.Lits)] {
		v.Lits[:cap(v.Lits)][k] = 7
	}
	clear(v.Values[:cap(v.Values)])
}
