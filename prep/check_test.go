package prep_test

import (
	"math"
	"testing"

	"arbiter/api"
	"arbiter/prep"
)

// full is a goal with nodes, atoms and forms of every kind.
func full() api.Goal {
	x := api.Mono{V: 4, C: "1"}
	return api.Goal{
		Nodes: nodes(
			app(0, 2, 0),    // 2: u
			app(1, 2, 1),    // 3: v
			app(2, 1, 2),    // 4: x
			pick(1, 3),      // 5: a number
			pick(0, 4),      // 6: a truth
			app(3, 0, 5, 0), // 7: p(true)
			api.GNode{Kind: api.NodeLin, Sort: 1, Fun: -1, Lin: form("1/2", x, api.Mono{V: 5, C: "-2"}), Term: 6}, // 8
			app(4, 2, 7, 8, 6, 2), // 9: g(the form, the truth, u)
			pick(2, 8),            // 10: an element
			app(4, 2, 9, 5, 1, 9), // 11: g(the number, false, g(..))
		),
		Atoms: []api.Atom{
			{Kind: api.AtomTrue, L: 6}, {Kind: api.AtomTrue, L: 7},
			{Kind: api.AtomEq, L: 2, R: 3}, {Kind: api.AtomEq, L: 9, R: 10},
			{Kind: api.AtomCon, Con: api.Con{Op: api.ConLe, F: form("-3", x)}},
			{Kind: api.AtomCon, Con: api.Con{Op: api.ConLt, F: form("0", x, api.Mono{V: 5, C: "7"})}},
		},
		Forms: []api.Form{
			f(api.FormTrue), atomForm(0), atomForm(1), f(api.FormNot, 1), f(api.FormAnd, 1, 2, 3), f(api.FormOr, 0, 4),
			f(api.FormIff, 2, 2), f(api.FormIte, 6, 5, 0), atomForm(5),
		},
		Sides: []int{8, 0},
		Roots: []int{7, 7},
	}
}

// R10: what may be, and each thing that may not.
func TestCheck(t *testing.T) {
	type goal = *api.Goal
	spare := func(op int) api.Atom {
		return api.Atom{Kind: api.AtomCon, Con: api.Con{Op: op, F: form("1")}}
	}
	for i, change := range []func(g goal){
		func(g goal) {},
		func(g goal) { *g = api.Goal{Nodes: nodes()} },
		func(g goal) { g.Nodes[2].Args, g.Nodes[6].Args, g.Nodes[6].Lin.M = []int{}, []int{}, []api.Mono{} },
		func(g goal) { g.Atoms[0].Con.F.M, g.Forms[0].Args = []api.Mono{}, []int{} },
		func(g goal) { g.Nodes[8].Lin = form("0") },
		func(g goal) { g.Nodes[3].Term = 0 },
		func(g goal) { g.Nodes[3].Term = math.MaxInt },
		func(g goal) { g.Nodes[2].Fun = math.MaxInt },
		func(g goal) { g.Nodes[10].Sort = math.MaxInt; g.Atoms[3].R = 11 },
		func(g goal) { g.Atoms = append(g.Atoms, g.Atoms...) },
		func(g goal) { g.Atoms = append(g.Atoms, spare(api.ConLe), spare(api.ConLt)) },
		func(g goal) { g.Forms = append(g.Forms, g.Forms[4], f(api.FormOr, 0, 0)) },
		func(g goal) { g.Forms = append(g.Forms, f(api.FormAnd, 8, 7, 6, 5, 4, 3, 2, 1, 0)) },
		func(g goal) { g.Sides, g.Roots = nil, nil },
	} {
		g := full()
		change(&g)
		if e := prep.Check(g); e != api.OK {
			t.Errorf("R10: the sound goal %d: %d", i, e)
		}
	}
	for i, change := range []func(g goal){
		func(g goal) { *g = api.Goal{} },
		func(g goal) { *g = api.Goal{Nodes: nodes()[:1]} },

		// 1: the first two nodes
		func(g goal) { g.Nodes[0], g.Nodes[1] = g.Nodes[1], g.Nodes[0] },
		func(g goal) { g.Nodes[0].Kind = api.NodePick },
		func(g goal) { g.Nodes[1].Kind = api.NodeTrue },
		func(g goal) { g.Nodes[0].Sort = 1 },
		func(g goal) { g.Nodes[1].Sort = 2 },
		func(g goal) { g.Nodes[0].Fun = 0 },
		func(g goal) { g.Nodes[1].Fun = -2 },
		func(g goal) { g.Nodes[0].Term = 0 },
		func(g goal) { g.Nodes[1].Term = -2 },
		func(g goal) { g.Nodes[1].Args = []int{0} },
		func(g goal) { g.Nodes[0].Lin.K = "0" },
		func(g goal) { g.Nodes[1].Lin.M = []api.Mono{{V: 0, C: "1"}} },

		// 2: the others
		func(g goal) { g.Nodes[2].Term = -1 },
		func(g goal) { g.Nodes[8].Term = -1 },
		func(g goal) { g.Nodes[10].Term = math.MinInt },
		func(g goal) { g.Nodes[2].Kind = 0 },
		func(g goal) { g.Nodes[10].Kind = 6 },
		func(g goal) { g.Nodes[10].Kind = api.NodeTrue },
		func(g goal) { g.Nodes[10].Kind = api.NodeFalse },
		func(g goal) { g.Nodes[2].Fun = -1 },
		func(g goal) { g.Nodes[9].Args[0] = 9 },
		func(g goal) { g.Nodes[9].Args[0] = 10 },
		func(g goal) { g.Nodes[9].Args[1] = -1 },
		func(g goal) { g.Nodes[9].Args[1] = math.MinInt },
		func(g goal) { g.Nodes[3].Sort = -1 },
		func(g goal) { g.Nodes[2].Lin.K = "0" },
		func(g goal) { g.Nodes[2].Lin.M = []api.Mono{{V: 0, C: "1"}} },
		func(g goal) { g.Nodes[8].Fun = 0 },
		func(g goal) { g.Nodes[8].Args = []int{4} },
		func(g goal) { g.Nodes[8].Sort = 2 },
		func(g goal) { g.Nodes[8].Lin = api.Lin{} },
		func(g goal) { g.Nodes[8].Lin.K = "2/4" },
		func(g goal) { g.Nodes[8].Lin.M[0].C = "0" },
		func(g goal) { g.Nodes[8].Lin.M[0].C = "01" },
		func(g goal) { g.Nodes[8].Lin.M[0].V = 5 },
		func(g goal) { g.Nodes[8].Lin.M[0].V = -1 },
		func(g goal) { g.Nodes[8].Lin.M[1].V = 6 },
		func(g goal) { g.Nodes[8].Lin.M[1].V = 8 },
		func(g goal) { g.Nodes[8].Lin.M[1].V = 9 },
		func(g goal) { g.Nodes[8].Lin.M[1].V = math.MaxInt },
		func(g goal) { g.Nodes[8].Lin.M[0].V = 2 },
		func(g goal) {
			g.Nodes = append(g.Nodes, g.Nodes[8])
			g.Nodes[12].Lin = form("0", api.Mono{V: 8, C: "1"})
		},
		func(g goal) { g.Nodes[10].Fun = 0 },
		func(g goal) { g.Nodes[10].Args = []int{0} },
		func(g goal) { g.Nodes[10].Lin.K = "0" },
		func(g goal) { g.Nodes[10].Lin.M = []api.Mono{{V: 4, C: "1"}} },
		func(g goal) { g.Nodes[10].Sort = -1; g.Atoms = g.Atoms[:3]; g.Forms = g.Forms[:8]; g.Sides = nil },
		func(g goal) { g.Nodes[11].Sort = 3 },
		func(g goal) { g.Nodes[11].Args = g.Nodes[11].Args[:2] },
		func(g goal) { g.Nodes[11].Args = append(g.Nodes[11].Args, 0) },
		func(g goal) { g.Nodes[11].Args = []int{5, 9, 1} },
		func(g goal) { g.Nodes[11].Args[0] = 3 },

		// 3: atoms
		func(g goal) { g.Atoms[0].Kind = 0 },
		func(g goal) { g.Atoms[0].Kind = 4 },
		func(g goal) { g.Atoms[0].R = 1 },
		func(g goal) { g.Atoms[0].R = -1 },
		func(g goal) { g.Atoms[0].Con.Op = api.ConLe },
		func(g goal) { g.Atoms[0].Con.F.K = "0" },
		func(g goal) { g.Atoms[0].Con.F.M = []api.Mono{{V: 4, C: "1"}} },
		func(g goal) { g.Atoms = append(g.Atoms, api.Atom{Kind: api.AtomTrue, L: 0}) },
		func(g goal) { g.Atoms = append(g.Atoms, api.Atom{Kind: api.AtomTrue, L: 1}) },
		func(g goal) { g.Atoms = append(g.Atoms, api.Atom{Kind: api.AtomTrue, L: 4}) },
		func(g goal) { g.Atoms = append(g.Atoms, api.Atom{Kind: api.AtomTrue, L: 2}) },
		func(g goal) { g.Atoms = append(g.Atoms, api.Atom{Kind: api.AtomTrue, L: -1}) },
		func(g goal) { g.Atoms = append(g.Atoms, api.Atom{Kind: api.AtomTrue, L: 12}) },
		func(g goal) { g.Atoms[2].L = 3 },
		func(g goal) { g.Atoms[2].L, g.Atoms[2].R = 3, 2 },
		func(g goal) { g.Atoms[2].L = -1 },
		func(g goal) { g.Atoms[2].R = 12 },
		func(g goal) { g.Atoms[2].R = 4 },
		func(g goal) { g.Atoms[2].L, g.Atoms[2].R = 4, 5 },
		func(g goal) { g.Atoms[2].L, g.Atoms[2].R = 0, 1 },
		func(g goal) { g.Nodes[10].Sort = 3 },
		func(g goal) { g.Atoms[2].Con.Op = api.ConLe },
		func(g goal) { g.Atoms[2].Con.F.K = "0" },
		func(g goal) { g.Atoms[2].Con.F.M = []api.Mono{{V: 4, C: "1"}} },
		func(g goal) { g.Atoms[4].L = 1 },
		func(g goal) { g.Atoms[4].R = 1 },
		func(g goal) { g.Atoms[4].Con.Op = 0 },
		func(g goal) { g.Atoms[4].Con.Op = api.ConEq },
		func(g goal) { g.Atoms[4].Con = api.Con{Op: api.ConTrue, F: form("0")} },
		func(g goal) { g.Atoms[4].Con = api.Con{Op: api.ConFalse, F: form("0")} },
		func(g goal) { g.Atoms[4].Con.F.K = "" },
		func(g goal) { g.Atoms[4].Con.F.K = "-0" },
		func(g goal) { g.Atoms[4].Con.F.M[0].V = 8 },
		func(g goal) { g.Atoms[4].Con.F.M[0].V = 6 },
		func(g goal) { g.Atoms[4].Con.F.M[0].V = 12 },
		func(g goal) { g.Atoms[4].Con.F.M[0].C = "0" },
		func(g goal) { g.Atoms[5].Con.F.M[0].V = 5 },
		func(g goal) { g.Atoms[0] = g.Atoms[1] },
		func(g goal) { g.Atoms[1] = g.Atoms[0] },

		// 4: forms
		func(g goal) { g.Forms[0].Op = 0 },
		func(g goal) { g.Forms[0].Op = 8 },
		func(g goal) { g.Forms[0].Atom = 1 },
		func(g goal) { g.Forms[1].Args = []int{0} },
		func(g goal) { g.Forms = append(g.Forms, f(api.FormTrue, 0)) },
		func(g goal) { g.Forms[1].Atom = 6 },
		func(g goal) { g.Forms[1].Atom = -1 },
		func(g goal) { g.Forms[3].Args = nil },
		func(g goal) { g.Forms[3].Args = []int{1, 1} },
		func(g goal) { g.Forms[3].Atom = 1 },
		func(g goal) { g.Forms[3].Args[0] = 3 },
		func(g goal) { g.Forms[3].Args[0] = 4 },
		func(g goal) { g.Forms[3].Args[0] = -1 },
		func(g goal) { g.Forms[4].Args = []int{1} },
		func(g goal) { g.Forms[4].Args = nil },
		func(g goal) { g.Forms[4].Args[2] = 4 },
		func(g goal) { g.Forms[4].Atom = -1 },
		func(g goal) { g.Forms[5].Args = []int{0} },
		func(g goal) { g.Forms[5].Args = nil },
		func(g goal) { g.Forms[5].Args[1] = math.MaxInt },
		func(g goal) { g.Forms[5].Atom = 1 },
		func(g goal) { g.Forms[6].Args = []int{0} },
		func(g goal) { g.Forms[6].Args = []int{0, 1, 2} },
		func(g goal) { g.Forms[6].Atom = 1 },
		func(g goal) { g.Forms[7].Args = []int{0, 1} },
		func(g goal) { g.Forms[7].Args = []int{0, 1, 2, 3} },
		func(g goal) { g.Forms[7].Atom = 1 },

		// 5: sides and roots
		func(g goal) { g.Sides[0] = 9 },
		func(g goal) { g.Sides[1] = -1 },
		func(g goal) { g.Roots[0] = 9 },
		func(g goal) { g.Roots[1] = -1 },
		func(g goal) { g.Roots[1] = math.MinInt },
		func(g goal) { *g = api.Goal{Nodes: nodes(), Roots: []int{0}} },
	} {
		g := full()
		change(&g)
		if e := prep.Check(g); e != api.ErrGoal {
			t.Errorf("R10: the goal %d that is none: %d", i, e)
		}
		wantErrGoal(t, g)
	}
}

// wantErrGoal asks the calls that are given what is no goal.
func wantErrGoal(t *testing.T, g api.Goal) {
	t.Helper()
	if v, e := prep.Values(api.Bank{}, g, api.Model{}); e != api.ErrGoal || len(v) > 0 {
		t.Errorf("R11: Values: %v, %d", v, e)
	}
	for _, count := range []int{0, len(g.Nodes)} { // ErrGoal comes ahead of ErrCount and of ErrModel
		if a, e := prep.Atoms(g, make([]api.Value, count)); e != api.ErrGoal || len(a) > 0 {
			t.Errorf("R12: Atoms: %v, %d", a, e)
		}
	}
	for _, count := range []int{0, len(g.Atoms)} {
		if f, e := prep.Forms(g, make([]bool, count)); e != api.ErrGoal || len(f) > 0 {
			t.Errorf("R13: Forms: %v, %d", f, e)
		}
	}
}

// R10: as many nodes, atoms and forms as there may be, and one more.
func TestCheckLimits(t *testing.T) {
	g := api.Goal{Nodes: nodes()}
	for i := range api.MaxTerms {
		g.Nodes = append(g.Nodes, app(i, 2, 0))
	}
	for range api.MaxAtoms {
		g.Atoms = append(g.Atoms, api.Atom{Kind: api.AtomEq, L: 2, R: 3})
	}
	for i := range api.MaxForms {
		g.Forms = append(g.Forms, atomForm(i%api.MaxAtoms))
	}
	for i, c := range []struct {
		g    api.Goal
		want api.Errno
	}{
		{g, api.OK},
		{api.Goal{Nodes: append(g.Nodes, pick(1, 0)), Atoms: g.Atoms, Forms: g.Forms}, api.ErrGoal},
		{api.Goal{Nodes: g.Nodes, Atoms: append(g.Atoms, g.Atoms[0]), Forms: g.Forms}, api.ErrGoal},
		{api.Goal{Nodes: g.Nodes, Atoms: g.Atoms, Forms: append(g.Forms, g.Forms[0])}, api.ErrGoal},
	} {
		if e := prep.Check(c.g); e != c.want {
			t.Errorf("R10: the goal %d at the limits: %d, want %d", i, e, c.want)
		}
	}
}
