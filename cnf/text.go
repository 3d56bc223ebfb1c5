package cnf

import (
	"strconv"

	"arbiter/api"
	"arbiter/words"
)

func show(c api.Cnf) string {
	out := words.Append([]byte("p cnf "), c.Vars)
	out = strconv.AppendInt(out, int64(len(c.Clauses)), 10)
	out = append(out, '\n')
	for _, clause := range c.Clauses {
		out = appendLine(out, clause)
	}
	if len(c.Tops) > 0 {
		out = appendLine(append(out, "a "...), c.Tops)
	}
	return string(out)
}

// appendLine writes literals and what ends them.
func appendLine(out []byte, lits []int) []byte {
	return append(words.AppendList(out, lits), '\n')
}

// read tells the clauses, and whether the text is such; if not, the reader stands where it is none.
func read(r *words.Reader) (api.Cnf, bool) {
	if r.Word() != "p" || r.Word() != "cnf" {
		return api.Cnf{}, false
	}
	vars, ok := words.Number(r.Word())
	if !ok || vars > api.MaxVars {
		return api.Cnf{}, false
	}
	count, ok := words.Number(r.Word())
	if !ok {
		return api.Cnf{}, false
	}
	c := api.Cnf{Vars: vars}
	for range count {
		clause, ok := r.Literals(vars)
		if !ok {
			return api.Cnf{}, false
		}
		c.Clauses = append(c.Clauses, clause)
	}
	switch r.Word() {
	case "":
		return c, true
	case "a":
		c.Tops, ok = r.Literals(vars)
		return c, ok && r.Word() == ""
	}
	return api.Cnf{}, false
}
