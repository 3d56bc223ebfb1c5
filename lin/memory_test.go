package lin_test

import (
	"slices"
	"testing"

	"arbiter/api"
	"arbiter/lin"
)

// watch keeps what is handed in, spare room included, to see whether it was touched.
type watch struct {
	touched []func() bool
}

func roomy[T comparable](w *watch, list []T, junk T) []T {
	whole := append(append(make([]T, 0, len(list)+3), list...), junk, junk, junk)
	before := slices.Clone(whole)
	w.touched = append(w.touched, func() bool { return !slices.Equal(whole, before) })
	return whole[:len(list)]
}

var junkMono = api.Mono{V: 77, C: "77"}

func (w *watch) form(f api.Lin) api.Lin {
	return api.Lin{M: roomy(w, f.M, junkMono), K: f.K}
}

func (w *watch) con(c api.Con) api.Con {
	return api.Con{Op: c.Op, F: w.form(c.F)}
}

func (w *watch) cons(list ...api.Con) []api.Con {
	whole := make([]api.Con, 0, len(list)+2)
	for _, c := range list {
		whole = append(whole, w.con(c))
	}
	whole = append(whole, w.con(never), w.con(never))
	before := slices.Clone(whole)
	w.touched = append(w.touched, func() bool { return !slices.EqualFunc(whole, before, sameCon) })
	return whole[:len(list)]
}

func (w *watch) look(t *testing.T, when, call string) {
	t.Helper()
	for _, touched := range w.touched {
		if touched() {
			t.Errorf("L1, P0.4: %s changes what was handed in, %s", call, when)
			return
		}
	}
}

// lists are the lists of monomials in an answer.
func lists(answer any) [][]api.Mono {
	switch x := answer.(type) {
	case api.Lin:
		return [][]api.Mono{x.M}
	case api.Con:
		return [][]api.Mono{x.F.M}
	case []api.Con:
		var all [][]api.Mono
		for _, c := range x {
			all = append(all, c.F.M)
		}
		return all
	}
	return nil
}

// scribble writes over each list of the answer to the end of its room, and sees whether another list of it has changed.
func scribble(t *testing.T, call string, answer any) {
	t.Helper()
	all := lists(answer)
	for i, list := range all {
		var before [][]api.Mono
		for _, other := range all {
			before = append(before, slices.Clone(other[:cap(other)]))
		}
		for j := range list[:cap(list)] {
			list[:cap(list)][j] = api.Mono{V: -5, C: "scribbled"}
		}
		for k, other := range all {
			if k != i && !slices.Equal(before[k], other[:cap(other)]) {
				t.Errorf("P0.4: two lists of an answer of %s share memory", call)
			}
		}
	}
	if list, ok := answer.([]api.Con); ok {
		for j := range list[:cap(list)] {
			list[:cap(list)][j] = api.Con{Op: -5, F: form("scribbled")}
		}
	}
}

func TestMemory(t *testing.T) {
	f, g := form("1", 0, "2", 1, "-1", 4, "1/3"), form("0", 1, "5")
	for name, call := range map[string]func(w *watch) (any, api.Errno){
		"Form":             func(w *watch) (any, api.Errno) { return lin.Form(w.form(form("0", 3, "1", 0, "2", 3, "1")).M, "1") },
		"Form in order":    func(w *watch) (any, api.Errno) { return lin.Form(w.form(f).M, "1") },
		"Check":            func(w *watch) (any, api.Errno) { return 0, lin.Check(w.form(f)) },
		"Add":              func(w *watch) (any, api.Errno) { return lin.Add(w.form(f), w.form(g)) },
		"Add of 0":         func(w *watch) (any, api.Errno) { return lin.Add(w.form(f), w.form(form("0"))) },
		"Add to 0":         func(w *watch) (any, api.Errno) { return lin.Add(w.form(form("0")), w.form(f)) },
		"Scale":            func(w *watch) (any, api.Errno) { return lin.Scale(w.form(f), "-3") },
		"Scale by 1":       func(w *watch) (any, api.Errno) { return lin.Scale(w.form(f), "1") },
		"Scale by 0":       func(w *watch) (any, api.Errno) { return lin.Scale(w.form(f), "0") },
		"Subst":            func(w *watch) (any, api.Errno) { return lin.Subst(w.form(f), 1, w.form(g)) },
		"Subst of none":    func(w *watch) (any, api.Errno) { return lin.Subst(w.form(f), 2, w.form(g)) },
		"Subst of all":     func(w *watch) (any, api.Errno) { return lin.Subst(w.form(form("0", 1, "1")), 1, w.form(f)) },
		"Solve":            func(w *watch) (any, api.Errno) { return lin.Solve(w.form(f), 1) },
		"Solve with -1":    func(w *watch) (any, api.Errno) { return lin.Solve(w.form(form("1", 0, "-1", 1, "1")), 0) },
		"Value":            func(w *watch) (any, api.Errno) { return lin.Value(w.form(f), roomy(w, texts("1", "2"), "junk")) },
		"Tidy":             func(w *watch) (any, api.Errno) { return lin.Tidy(w.con(le("1", 0, "2", 1, "1"))) },
		"Tidy of tidy":     func(w *watch) (any, api.Errno) { return lin.Tidy(w.con(le("1", 0, "1", 1, "1"))) },
		"Opposite of Le":   func(w *watch) (any, api.Errno) { return lin.Opposite(w.con(le("1", 0, "2"))) },
		"Opposite of Eq":   func(w *watch) (any, api.Errno) { return lin.Opposite(w.con(eq("1", 0, "2"))) },
		"Opposite of True": func(w *watch) (any, api.Errno) { return lin.Opposite(w.con(always)) },
		"Holds": func(w *watch) (any, api.Errno) {
			return lin.Holds(w.con(eq("1", 0, "2")), roomy(w, texts("1"), "junk"))
		},
		"Combine": func(w *watch) (any, api.Errno) {
			return lin.Combine(w.cons(le("1", 0, "2"), eq("1", 1, "2")), roomy(w, texts("1", "-2"), "junk"))
		},
		"Combine of one": func(w *watch) (any, api.Errno) {
			return lin.Combine(w.cons(le("1", 0, "2")), roomy(w, texts("1"), "junk"))
		},
		"Farkas": func(w *watch) (any, api.Errno) {
			return lin.Farkas(w.cons(le("1", 0, "2"), eq("1", 1, "2")), roomy(w, texts("1", "-2"), "junk"))
		},
		"Eliminate by pairs": func(w *watch) (any, api.Errno) {
			return lin.Eliminate(w.cons(le("1", 0, "2"), lt("1", 0, "-1"), le("1", 0, "-1", 1, "1"), le("1", 0, "1", 2, "1"), le("7", 3, "1"), always), 0)
		},
		"Eliminate by Eq": func(w *watch) (any, api.Errno) {
			return lin.Eliminate(w.cons(le("1", 0, "2"), eq("1", 0, "-1", 1, "1"), lt("7", 3, "1"), le("0", 0, "1")), 0)
		},
		"Eliminate of none": func(w *watch) (any, api.Errno) {
			return lin.Eliminate(w.cons(le("1", 0, "2"), eq("1", 0, "-1", 1, "1")), 5)
		},
		"Between": func(w *watch) (any, api.Errno) {
			return lin.Between(w.cons(le("1", 0, "2", 1, "1"), lt("-9", 0, "-1")), 0, roomy(w, texts("1", "2"), "junk"))
		},
		"Between by Eq": func(w *watch) (any, api.Errno) {
			return lin.Between(w.cons(eq("1", 0, "2", 1, "1"), lt("-9", 0, "-1")), 0, roomy(w, texts("1", "2"), "junk"))
		},
		"DValue": func(w *watch) (any, api.Errno) {
			return lin.DValue(w.form(f), roomy(w, deltas(delta("1", "2")), delta("junk", "")))
		},
		"Pick": func(w *watch) (any, api.Errno) {
			return lin.Pick(roomy(w, pairs(pair("0", "1", "1", "-1")), pair("junk", "", "", "")))
		},
		"Pick with one wrong": func(w *watch) (any, api.Errno) {
			return lin.Pick(roomy(w, pairs(pair("0", "1", "0", "-1")), pair("junk", "", "", "")))
		},
	} {
		w := &watch{}
		first, err := call(w)
		w.look(t, "when it is called", name)
		scribble(t, name, first)
		w.look(t, "when its answer is written over", name)
		second, errAgain := call(&watch{})
		third, _ := call(&watch{})
		if err != errAgain || !same(second, third) || slices.ContainsFunc(lists(second), func(m []api.Mono) bool { return slices.ContainsFunc(m, func(x api.Mono) bool { return x.V < 0 }) }) {
			t.Errorf("P0.5: %s answers otherwise when it is called again: %v, %v", name, second, third)
		}
		scribble(t, name, second)
		if slices.ContainsFunc(lists(third), func(m []api.Mono) bool { return slices.ContainsFunc(m, func(x api.Mono) bool { return x.V < 0 }) }) {
			t.Errorf("P0.4: two answers of %s share memory", name)
		}
	}
}
