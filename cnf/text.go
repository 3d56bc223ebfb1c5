package cnf

import (
	"math"
	"strconv"

	"arbiter/api"
)

func show(c api.Cnf) string {
	out := []byte("p cnf ")
	out = strconv.AppendInt(out, int64(c.Vars), 10)
	out = append(out, ' ')
	out = strconv.AppendInt(out, int64(len(c.Clauses)), 10)
	out = append(out, '\n')
	for _, clause := range c.Clauses {
		out = appendLine(out, clause)
	}
	if len(c.Tops) > 0 {
		out = appendLine(append(out, "a "...), c.Tops)
	}
	return string(out)
}

// appendLine writes literals and what ends them.
func appendLine(out []byte, lits []int) []byte {
	for _, lit := range lits {
		out = strconv.AppendInt(out, int64(lit), 10)
		out = append(out, ' ')
	}
	return append(out, "0\n"...)
}

// reader reads clauses word by word.
type reader struct {
	text string
	at   int // where the word stands that was met last, or the text's end
	next int // the byte behind that word
}

// word goes on to the next word; at the text's end it is empty.
func (r *reader) word() string {
	r.at = r.skip(r.next)
	r.next = r.at
	for r.next < len(r.text) && !isWhite(r.text[r.next]) {
		r.next++
	}
	return r.text[r.at:r.next]
}

// skip tells where the white that begins there ends, comments included.
func (r *reader) skip(at int) int {
	comment := false
	for ; at < len(r.text); at++ {
		b := r.text[at]
		switch {
		case isBreak(b):
			comment = false
		case b == 'c' && (at == 0 || isBreak(r.text[at-1])):
			comment = true
		case !comment && !isWhite(b):
			return at
		}
	}
	return at
}

func isBreak(b byte) bool {
	return b == '\n' || b == '\r'
}

func isWhite(b byte) bool {
	return isBreak(b) || b == '\t' || b == ' '
}

// read tells the clauses, and whether the text is such; if not, the reader stands where it is none.
func (r *reader) read() (api.Cnf, bool) {
	if r.word() != "p" || r.word() != "cnf" {
		return api.Cnf{}, false
	}
	vars, ok := number(r.word())
	if !ok || vars > api.MaxVars {
		return api.Cnf{}, false
	}
	count, ok := number(r.word())
	if !ok {
		return api.Cnf{}, false
	}
	c := api.Cnf{Vars: vars}
	for range count {
		clause, ok := r.literals(vars)
		if !ok {
			return api.Cnf{}, false
		}
		c.Clauses = append(c.Clauses, clause)
	}
	switch r.word() {
	case "":
		return c, true
	case "a":
		c.Tops, ok = r.literals(vars)
		return c, ok && r.word() == ""
	}
	return api.Cnf{}, false
}

// number tells the number that a word is, and whether it is one; what no text could be long enough for stands for all that is above it.
func number(word string) (int, bool) {
	if word == "" || word[0] == '0' && len(word) > 1 {
		return 0, false
	}
	n := 0
	for i := range len(word) {
		digit := int(word[i]) - '0'
		if digit < 0 || digit > 9 {
			return 0, false
		}
		if n > (math.MaxInt-digit)/10 {
			n = math.MaxInt
			continue
		}
		n = 10*n + digit
	}
	return n, true
}

// literals reads literals up to the 0 that ends them.
func (r *reader) literals(vars int) ([]int, bool) {
	var list []int
	for {
		word := r.word()
		sign := 1
		if word != "" && word[0] == '-' {
			word = word[1:]
			sign = -1
		}
		n, ok := number(word)
		if !ok || n > vars || n == 0 && sign < 0 {
			return nil, false
		}
		if n == 0 {
			return list, true
		}
		list = append(list, sign*n)
	}
}
