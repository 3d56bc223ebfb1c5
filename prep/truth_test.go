package prep_test

import (
	"slices"
	"testing"

	"arbiter/api"
	"arbiter/prep"
)

// structure is one of the bank of the chapter's examples: f is 1 at 0, else 0; a is 0; x is 1, y 3; g is 2.
func structure() api.Model {
	return model(table(elem(0), row(elem(1), elem(0))), table(elem(0)), table(number("1")), table(number("3")), table(elem(2)))
}

func TestValues(t *testing.T) {
	b := examples(t)
	for _, c := range []struct {
		roots []int
		want  []api.Value
	}{
		{nil, nil},
		{[]int{12}, []api.Value{elem(0), elem(1)}},
		{[]int{8}, []api.Value{number("1"), number("3"), number("1")}},
		{[]int{11}, []api.Value{elem(0), elem(1), number("1"), number("3"), truth(1), number("2"), elem(2)}},
	} {
		got, e := prep.Values(b, goalOf(t, b, c.roots...), structure())
		if want := append([]api.Value{truth(1), truth(0)}, c.want...); e != api.OK || !slices.Equal(got, want) {
			t.Errorf("R11: Values of %v: %v, %d, want %v", c.roots, got, e, want)
		}
	}
	// A node's term alone says what it is worth, whichever goal it comes from; several may stand for one.
	g := api.Goal{Nodes: nodes(app(7, 2, 1), pick(2, 1), app(8, 1, 9), app(9, 1, 7)), Atoms: nil}
	want := []api.Value{truth(1), truth(0), elem(1), elem(1), number("2"), number("1")}
	if got, e := prep.Values(b, g, structure()); e != api.OK || !slices.Equal(got, want) {
		t.Errorf("R11: Values: %v, %d", got, e)
	}
}

// R11: each error, and which one comes where several apply.
func TestValuesErrors(t *testing.T) {
	b := examples(t)
	spoilt := cloneBank(b)
	spoilt.Terms[7].Num = "2/2"
	sound := goalOf(t, b, 8)
	none := cloneGoal(sound)
	none.Forms[4].Op = api.FormIte
	term := func(n int) api.Goal {
		g := cloneGoal(sound)
		g.Nodes[3].Term = n
		return g
	}
	fewer := structure()
	fewer.Tables = fewer.Tables[1:]
	for i, c := range []struct {
		b    api.Bank
		g    api.Goal
		m    api.Model
		want api.Errno
	}{
		{b, sound, structure(), api.OK},
		{spoilt, sound, structure(), api.ErrText},
		{spoilt, none, fewer, api.ErrText},
		{spoilt, none, structure(), api.ErrText},
		{b, sound, fewer, api.ErrModel},
		{b, none, fewer, api.ErrModel},
		{b, none, structure(), api.ErrGoal},
		{b, term(13), structure(), api.ErrGoal},
		{b, term(1 << 40), structure(), api.ErrGoal},
		{b, term(0), structure(), api.ErrGoal},
		{b, term(5), structure(), api.ErrGoal},
		{b, term(9), structure(), api.OK},
		{b, term(13), fewer, api.ErrModel},
		{b, api.Goal{}, structure(), api.ErrGoal},
	} {
		got, e := prep.Values(c.b, c.g, c.m)
		if e != c.want || e != api.OK && len(got) > 0 {
			t.Errorf("R11: case %d: %v, %d, want %d", i, got, e, c.want)
		}
	}
}

func TestAtoms(t *testing.T) {
	g := full()
	values := []api.Value{
		truth(1), truth(0), elem(7), elem(7), number("3"), number("-3/7"), truth(0), truth(1), number("55"), elem(7), elem(8), elem(0),
	}
	if got, e := prep.Atoms(g, values); e != api.OK || !slices.Equal(got, []bool{false, true, true, false, true, false}) {
		t.Errorf("R12: %v, %d", got, e)
	}
	values[4], values[5], values[10] = number("3000000000000000000001/1000000000000000000000"), number("-3"), elem(7)
	if got, e := prep.Atoms(g, values); e != api.OK || !slices.Equal(got, []bool{false, true, true, true, false, true}) {
		t.Errorf("R12: %v, %d", got, e)
	}
	if got, e := prep.Atoms(api.Goal{Nodes: nodes()}, []api.Value{truth(1), truth(0)}); e != api.OK || len(got) != 0 {
		t.Errorf("R12: of no atoms: %v, %d", got, e)
	}
}

// R12: each error, and which one comes where several apply.
func TestAtomsErrors(t *testing.T) {
	g := full()
	right := func() []api.Value {
		return []api.Value{
			truth(1), truth(0), elem(0), elem(0), number("0"), number("0"), truth(0), truth(0), number("0"), elem(0), elem(0), elem(0),
		}
	}
	if _, e := prep.Atoms(g, right()); e != api.OK {
		t.Errorf("R12: %d", e)
	}
	for i, change := range []func(v []api.Value){
		func(v []api.Value) { v[0].N = 0 },
		func(v []api.Value) { v[1].N = 1 },
		func(v []api.Value) { v[0].N = 2 },
		func(v []api.Value) { v[1].N = -1 },
		func(v []api.Value) { v[0] = elem(1) },
		func(v []api.Value) { v[0].R = "1" },
		func(v []api.Value) { v[1].R = "0" },
		func(v []api.Value) { v[1].Sort = 1 },
		func(v []api.Value) { v[2].N = -1 },
		func(v []api.Value) { v[2].R = "0" },
		func(v []api.Value) { v[2].Sort = 3 },
		func(v []api.Value) { v[2] = truth(0) },
		func(v []api.Value) { v[4].N = 1 },
		func(v []api.Value) { v[4].R = "" },
		func(v []api.Value) { v[4].R = "2/2" },
		func(v []api.Value) { v[4].R = "-0" },
		func(v []api.Value) { v[4].Sort = 0 },
		func(v []api.Value) { v[5] = elem(0) },
		func(v []api.Value) { v[6].N = 2 },
		func(v []api.Value) { v[6].N = -1 },
		func(v []api.Value) { v[6].R = "0" },
		func(v []api.Value) { v[6] = number("0") },
		func(v []api.Value) { v[8].R = "1.5" },
		func(v []api.Value) { v[11] = api.Value{Sort: -1} },
		func(v []api.Value) { v[11] = api.Value{} },
	} {
		v := right()
		change(v)
		if got, e := prep.Atoms(g, v); e != api.ErrModel || len(got) > 0 {
			t.Errorf("R12: the change %d: %v, %d", i, got, e)
		}
		if got, e := prep.Atoms(g, v[:11]); e != api.ErrCount || len(got) > 0 {
			t.Errorf("R12: the change %d, a value short: %v, %d", i, got, e)
		}
	}
	for _, v := range [][]api.Value{nil, right()[:11], append(right(), truth(0))} {
		if got, e := prep.Atoms(g, v); e != api.ErrCount || len(got) > 0 {
			t.Errorf("R12: %d values: %v, %d", len(v), got, e)
		}
	}
}

func TestFormsHold(t *testing.T) {
	g := full()
	for _, c := range []struct {
		atoms [3]bool // 0, 1 and 5
		want  []bool
	}{
		{[3]bool{false, false, false}, []bool{true, false, false, true, false, true, true, true, false}},
		{[3]bool{true, true, true}, []bool{true, true, true, false, false, true, true, true, true}},
		{[3]bool{false, true, true}, []bool{true, false, true, true, false, true, true, true, true}},
	} {
		got, e := prep.Forms(g, []bool{c.atoms[0], c.atoms[1], true, false, true, c.atoms[2]})
		if e != api.OK || !slices.Equal(got, c.want) {
			t.Errorf("R13: %v: %v, %d, want %v", c.atoms, got, e, c.want)
		}
	}
	for _, count := range []int{0, 5, 7} {
		if got, e := prep.Forms(g, make([]bool, count)); e != api.ErrCount || len(got) > 0 {
			t.Errorf("R13: %d atoms: %v, %d", count, got, e)
		}
	}
	if got, e := prep.Forms(api.Goal{Nodes: nodes()}, nil); e != api.OK || len(got) > 0 {
		t.Errorf("R13: of no forms: %v, %d", got, e)
	}
}

// R13: the operators, wherever their arguments are true.
func TestFormTables(t *testing.T) {
	g := api.Goal{Nodes: nodes(app(0, 1, 0))}
	for i := range 3 {
		g.Atoms = append(g.Atoms, atMost(form("0", api.Mono{V: 2, C: []string{"1", "2", "3"}[i]})))
		g.Forms = append(g.Forms, atomForm(i))
	}
	g.Forms = append(g.Forms, f(api.FormTrue), f(api.FormNot, 1), f(api.FormAnd, 0, 1, 2), f(api.FormOr, 0, 1, 2), f(api.FormIff, 1, 2), f(api.FormIte, 0, 1, 2))
	for n := range 8 {
		a, b, c := n&1 > 0, n&2 > 0, n&4 > 0
		want := []bool{a, b, c, true, !b, a && b && c, a || b || c, b == c, a && b || !a && c}
		if got, e := prep.Forms(g, []bool{a, b, c}); e != api.OK || !slices.Equal(got, want) {
			t.Errorf("R13: %v %v %v: %v, %d, want %v", a, b, c, got, e, want)
		}
	}
}
