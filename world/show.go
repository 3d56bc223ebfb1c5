package world

import (
	"strconv"
	"strings"

	"arbiter/api"
	"arbiter/scan"
	"arbiter/worth"
)

// sortNames tells, by sort, how its name is written; the empty text: it cannot be.
func sortNames(b api.Bank) []string {
	names := []string{api.SortBool: "Bool", api.SortReal: "Real"}
	for _, s := range b.Sorts {
		text, _ := scan.Quote(s)
		names = append(names, text)
	}
	return names
}

// areWritable tells whether the functions and the sorts that they have have names that can be written.
func areWritable(funs []api.Fun, sorts []string) bool {
	for _, f := range funs {
		if _, err := scan.Quote(f.Name); err != api.OK || sorts[f.Out] == "" {
			return false
		}
		for _, s := range f.Args {
			if sorts[s] == "" {
				return false
			}
		}
	}
	return true
}

// show writes tidy tables of functions that can be written.
func show(funs []api.Fun, tables []worth.Table, sorts []string) string {
	w := &writer{sorts: sorts}
	w.put("(\n")
	for i, f := range funs {
		w.definition(f, tables[i])
	}
	w.put(")\n")
	return w.out.String()
}

type writer struct {
	sorts []string
	out   strings.Builder
}

func (w *writer) put(texts ...string) {
	for _, t := range texts {
		w.out.WriteString(t)
	}
}

func (w *writer) value(v worth.Value) {
	w.put(v.Spell(w.sorts))
}

func (w *writer) definition(f api.Fun, t worth.Table) {
	name, _ := scan.Quote(f.Name)
	w.put("  (define-fun ", name, " (")
	for i, s := range f.Args {
		if i > 0 {
			w.put(" ")
		}
		w.put("(", param(i), " ", w.sorts[s], ")")
	}
	w.put(") ", w.sorts[f.Out], " ")
	w.body(t)
	w.put(")\n")
}

// body nests as deep as there are rows; all of them close at its end.
func (w *writer) body(t worth.Table) {
	for _, r := range t.Rows {
		w.put("(ite ")
		w.condition(r.Args)
		w.put(" ")
		w.value(r.Out)
		w.put(" ")
	}
	w.value(t.Rest)
	w.put(strings.Repeat(")", len(t.Rows)))
}

func (w *writer) condition(args []worth.Value) {
	if len(args) == 1 {
		w.equation(0, args[0])
		return
	}
	w.put("(and")
	for i, v := range args {
		w.put(" ")
		w.equation(i, v)
	}
	w.put(")")
}

func (w *writer) equation(i int, v worth.Value) {
	w.put("(= ", param(i), " ")
	w.value(v)
	w.put(")")
}

func param(i int) string {
	return "x" + strconv.Itoa(i)
}
