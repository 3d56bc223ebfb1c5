package world

import (
	"strconv"
	"strings"

	"arbiter/api"
	"arbiter/scan"
)

// sortNames tells, by sort, how its name is written; the empty text: it cannot be.
func sortNames(b api.Bank) []string {
	names := []string{api.SortBool: "Bool", api.SortReal: "Real"}
	for _, s := range b.Sorts {
		text, _ := scan.Quote(s)
		names = append(names, text)
	}
	return names
}

// areWritable tells whether the functions and the sorts that they have have names that can be written.
func areWritable(funs []api.Fun, sorts []string) bool {
	for _, f := range funs {
		if _, err := scan.Quote(f.Name); err != api.OK || sorts[f.Out] == "" {
			return false
		}
		for _, s := range f.Args {
			if sorts[s] == "" {
				return false
			}
		}
	}
	return true
}

// show writes tidy tables of functions that can be written.
func show(funs []api.Fun, tables []table, sorts []string) string {
	w := &writer{sorts: sorts}
	w.put("(\n")
	for i, f := range funs {
		w.definition(f, tables[i])
	}
	w.put(")\n")
	return w.out.String()
}

type writer struct {
	sorts []string
	out   strings.Builder
}

func (w *writer) put(texts ...string) {
	for _, t := range texts {
		w.out.WriteString(t)
	}
}

func (w *writer) value(v value) {
	w.put(v.spell(w.sorts))
}

func (w *writer) definition(f api.Fun, t table) {
	name, _ := scan.Quote(f.Name)
	w.put("  (define-fun ", name, " (")
	for i, s := range f.Args {
		if i > 0 {
			w.put(" ")
		}
		w.put("(", param(i), " ", w.sorts[s], ")")
	}
	w.put(") ", w.sorts[f.Out], " ")
	w.body(t)
	w.put(")\n")
}

// body nests as deep as there are rows; all of them close at its end.
func (w *writer) body(t table) {
	for _, r := range t.rows {
		w.put("(ite ")
		w.condition(r.args)
		w.put(" ")
		w.value(r.out)
		w.put(" ")
	}
	w.value(t.rest)
	w.put(strings.Repeat(")", len(t.rows)))
}

func (w *writer) condition(args []value) {
	if len(args) == 1 {
		w.equation(0, args[0])
		return
	}
	w.put("(and")
	for i, v := range args {
		w.put(" ")
		w.equation(i, v)
	}
	w.put(")")
}

func (w *writer) equation(i int, v value) {
	w.put("(= ", param(i), " ")
	w.value(v)
	w.put(")")
}

func param(i int) string {
	return "x" + strconv.Itoa(i)
}
