package prep_test

import (
	"reflect"
	"slices"
	"testing"

	"arbiter/api"
	"arbiter/prep"
)

// roomy is a list with spare room, and something in it.
func roomy[T any](list []T, junk T) []T {
	out := make([]T, len(list), len(list)+2)
	copy(out, list)
	for i := range 2 {
		out[:cap(out)][len(list)+i] = junk
	}
	return out
}

var (
	junkMono  = api.Mono{V: -7, C: "junk"}
	junkValue = api.Value{Sort: -7, N: -7, R: "junk"}
)

func roomyGoal(g api.Goal) api.Goal {
	out := api.Goal{
		Nodes: roomy(g.Nodes, api.GNode{Kind: -7}), Atoms: roomy(g.Atoms, api.Atom{Kind: -7}), Forms: roomy(g.Forms, api.Form{Op: -7}),
		Sides: roomy(g.Sides, -7), Roots: roomy(g.Roots, -7),
	}
	for i := range out.Nodes {
		out.Nodes[i].Args = roomy(out.Nodes[i].Args, -7)
		out.Nodes[i].Lin.M = roomy(out.Nodes[i].Lin.M, junkMono)
	}
	for i := range out.Atoms {
		out.Atoms[i].Con.F.M = roomy(out.Atoms[i].Con.F.M, junkMono)
	}
	for i := range out.Forms {
		out.Forms[i].Args = roomy(out.Forms[i].Args, -7)
	}
	return out
}

func roomyBank(b api.Bank) api.Bank {
	out := api.Bank{Sorts: roomy(b.Sorts, "junk"), Funs: roomy(b.Funs, api.Fun{Out: -7}), Terms: roomy(b.Terms, api.Term{Op: -7})}
	for i := range out.Funs {
		out.Funs[i].Args = roomy(out.Funs[i].Args, -7)
	}
	for i := range out.Terms {
		out.Terms[i].Args = roomy(out.Terms[i].Args, -7)
	}
	return out
}

func roomyModel(m api.Model) api.Model {
	out := api.Model{Tables: roomy(m.Tables, api.Table{})}
	for i := range out.Tables {
		rows := roomy(out.Tables[i].Rows, api.Row{})
		for j := range rows {
			rows[j].Args = roomy(rows[j].Args, junkValue)
		}
		out.Tables[i].Rows = rows
	}
	return out
}

// whole copies a value with all lists in it up to the ends of their spare room.
func whole(v reflect.Value) reflect.Value {
	out := reflect.New(v.Type()).Elem()
	switch v.Kind() {
	case reflect.Slice:
		full := v.Slice(0, v.Cap())
		out = reflect.MakeSlice(v.Type(), full.Len(), full.Len())
		for i := range full.Len() {
			out.Index(i).Set(whole(full.Index(i)))
		}
	case reflect.Struct:
		for i := range v.NumField() {
			out.Field(i).Set(whole(v.Field(i)))
		}
	default:
		out.Set(v)
	}
	return out
}

func snapshot(things ...any) []any {
	var out []any
	for _, x := range things {
		out = append(out, whole(reflect.ValueOf(x)).Interface())
	}
	return out
}

// What is handed in is not changed, nor is its spare room.
func TestWhatIsHandedInStays(t *testing.T) {
	look(t, 60, func(g *gen, b api.Bank, roots []int, goal api.Goal) {
		b, goal, roots = roomyBank(b), roomyGoal(goal), roomy(roots, -7)
		m := roomyModel(g.model(b))
		first, _ := prep.Values(b, goal, m)
		values := roomy(first, junkValue)
		atoms := roomy(make([]bool, len(goal.Atoms)), true)
		held := snapshot(b, goal, roots, m, values, atoms)
		prep.Goal(b, roots)
		prep.Check(goal)
		prep.Values(b, goal, m)
		prep.Atoms(goal, values)
		prep.Forms(goal, atoms)
		if !reflect.DeepEqual(held, snapshot(b, goal, roots, m, values, atoms)) {
			t.Error("R1, P0.4: what was handed in is changed")
		}
	})
}

// lists tells all lists of numbers, and all of monomials, in a goal.
func lists(g api.Goal) ([][]int, [][]api.Mono) {
	ints := [][]int{g.Sides, g.Roots}
	var monos [][]api.Mono
	for _, n := range g.Nodes {
		ints = append(ints, n.Args)
		monos = append(monos, n.Lin.M)
	}
	for _, f := range g.Forms {
		ints = append(ints, f.Args)
	}
	for _, a := range g.Atoms {
		monos = append(monos, a.Con.F.M)
	}
	return ints, monos
}

// share tells whether two of the lists share memory, spare room included; it writes over them.
func share[T comparable](lists [][]T, junk T) bool {
	for _, list := range lists {
		list = list[:cap(list)]
		for i := range list {
			if list[i] == junk {
				return true
			}
			list[i] = junk
		}
	}
	return false
}

// What is handed out may be written over: no list of it is another's, an argument's or a later answer's.
func TestWhatIsHandedOutIsNew(t *testing.T) {
	look(t, 60, func(g *gen, b api.Bank, roots []int, goal api.Goal) {
		heldBank, heldGoal := cloneBank(b), cloneGoal(goal)
		ints, monos := lists(goal)
		if share(ints, -99) || share(monos, api.Mono{V: -99}) {
			t.Error("P0.4: two lists of an answer share memory")
		}
		for i := range goal.Nodes[:cap(goal.Nodes)] {
			goal.Nodes[:cap(goal.Nodes)][i] = api.GNode{}
		}
		for i := range goal.Atoms[:cap(goal.Atoms)] {
			goal.Atoms[:cap(goal.Atoms)][i] = api.Atom{}
		}
		for i := range goal.Forms[:cap(goal.Forms)] {
			goal.Forms[:cap(goal.Forms)][i] = api.Form{}
		}
		if !reflect.DeepEqual(snapshot(heldBank), snapshot(cloneBank(b))) || !sameGoal(goalOf(t, b, roots...), heldGoal) {
			t.Error("P0.4: a goal shares memory with the bank or with a later answer")
		}
		m := g.model(b)
		values, _ := prep.Values(b, heldGoal, m)
		heldValues := slices.Clone(values)
		atoms, _ := prep.Atoms(heldGoal, values)
		heldAtoms := slices.Clone(atoms)
		forms, _ := prep.Forms(heldGoal, atoms)
		heldForms := slices.Clone(forms)
		for i := range forms[:cap(forms)] {
			forms[:cap(forms)][i] = !forms[:cap(forms)][i]
		}
		if !slices.Equal(atoms, heldAtoms) {
			t.Error("P0.4: Forms' answer shares memory with its argument")
		}
		for i := range atoms[:cap(atoms)] {
			atoms[:cap(atoms)][i] = !atoms[:cap(atoms)][i]
		}
		share([][]api.Value{values}, junkValue)
		values, _ = prep.Values(b, heldGoal, m)
		atoms, _ = prep.Atoms(heldGoal, values)
		forms, _ = prep.Forms(heldGoal, atoms)
		if !slices.Equal(values, heldValues) || !slices.Equal(atoms, heldAtoms) || !slices.Equal(forms, heldForms) {
			t.Error("P0.5: an answer is another when it is asked again")
		}
	})
}

// P0.8: the names and the numbers that this layer speaks.
func TestNamesOfApi(t *testing.T) {
	var _ struct {
		Kind int
		Sort int
		Fun  int
		Args []int
		Lin  api.Lin
		Term int
	} = api.GNode{}
	var _ struct {
		Kind int
		L, R int
		Con  api.Con
	} = api.Atom{}
	var _ struct {
		Op   int
		Atom int
		Args []int
	} = api.Form{}
	var _ struct {
		Nodes []api.GNode
		Atoms []api.Atom
		Forms []api.Form
		Sides []int
		Roots []int
	} = api.Goal{}
	if api.NodeTrue != 1 || api.NodeFalse != 2 || api.NodeApp != 3 || api.NodeLin != 4 || api.NodePick != 5 {
		t.Error("P0.8: a kind of nodes is another")
	}
	if api.AtomTrue != 1 || api.AtomEq != 2 || api.AtomCon != 3 {
		t.Error("P0.8: a kind of atoms is another")
	}
	if api.FormTrue != 1 || api.FormAtom != 2 || api.FormNot != 3 || api.FormAnd != 4 || api.FormOr != 5 || api.FormIff != 6 || api.FormIte != 7 {
		t.Error("P0.8: an operator of forms is another")
	}
	if api.ErrRoot != 60 || api.ErrGoal != 61 || api.ErrCount != 5 || api.ErrLimit != 46 || api.MaxAtoms != 100000 || api.MaxForms != 300000 || api.MaxTerms != 100000 {
		t.Error("P0.8: a number of api is another")
	}
}
