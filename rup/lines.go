package rup

import (
	"slices"
	"strconv"

	"arbiter/api"
	"arbiter/words"
)

// follower goes through lines.
type follower struct {
	vars    int
	clauses [][]int // by number, less one
	gone    []bool  // by number, less one: it was taken away
	held    []int   // at a literal and vars: the last line for which it was held, from 1 on
	line    int
}

func newFollower(c api.Cnf) *follower {
	return &follower{
		vars:    c.Vars,
		clauses: slices.Clone(c.Clauses),
		gone:    make([]bool, len(c.Clauses)),
		held:    make([]int, 2*c.Vars+1),
	}
}

func (f *follower) isThere(number int) bool {
	return number >= 1 && number <= len(f.clauses) && !f.gone[number-1]
}

func (f *follower) hold(lit int) {
	f.held[lit+f.vars] = f.line
}

func (f *follower) holds(lit int) bool {
	return f.held[lit+f.vars] == f.line
}

// follows tells whether a line follows from those ahead.
func (f *follower) follows(line api.Line) bool {
	f.line++
	if line.Delete {
		return len(line.Lits) == 0 && f.canGo(line.Hints)
	}
	if !areLiterals(line.Lits, f.vars) {
		return false
	}
	for _, lit := range line.Lits {
		f.hold(-lit)
	}
	if slices.ContainsFunc(line.Lits, f.holds) {
		return len(line.Hints) == 0
	}
	return f.clashes(line.Hints)
}

// canGo tells whether the numbers are those of clauses that are there, none twice.
func (f *follower) canGo(numbers []int) bool {
	sorted := slices.Clone(numbers)
	slices.Sort(sorted)
	for i, number := range sorted {
		if !f.isThere(number) || i > 0 && number == sorted[i-1] {
			return false
		}
	}
	return true
}

// clashes tells whether the last of the hints, and no other, is false where the others hold one literal each.
func (f *follower) clashes(hints []int) bool {
	for i, hint := range hints {
		if !f.isThere(hint) {
			return false
		}
		lit, count := f.rest(f.clauses[hint-1])
		if count == 0 {
			return i == len(hints)-1
		}
		if count > 1 {
			return false
		}
		f.hold(lit)
	}
	return false
}

// rest tells how many unlike literals of a clause, up to two, are not false, and one of them.
func (f *follower) rest(clause []int) (int, int) {
	last, count := 0, 0
	for _, lit := range clause {
		if f.holds(-lit) || lit == last {
			continue
		}
		last = lit
		count++
		if count > 1 {
			break
		}
	}
	return last, count
}

// take does what a line that follows does.
func (f *follower) take(line api.Line) {
	if !line.Delete {
		f.clauses = append(f.clauses, line.Lits)
		f.gone = append(f.gone, false)
		return
	}
	for _, number := range line.Hints {
		f.gone[number-1] = true
	}
}

// maxDigits is how many digits a number has at most that stands in Hints.
const maxDigits = 18

func canBeWritten(line api.Line, vars int) bool {
	if !areLiterals(line.Lits, vars) || line.Delete && len(line.Lits) > 0 {
		return false
	}
	return !slices.ContainsFunc(line.Hints, func(n int) bool { return n < 1 || len(strconv.Itoa(n)) > maxDigits })
}

// appendLine writes a line; last is its number, or of one that takes away, the last clause's.
func appendLine(out []byte, last int, line api.Line) []byte {
	out = words.Append(out, last)
	if line.Delete {
		out = append(out, "d "...)
	} else {
		out = append(words.AppendList(out, line.Lits), ' ')
	}
	return append(words.AppendList(out, line.Hints), '\n')
}

// read tells the lines behind so many clauses, and whether the text is such; if not, the reader stands where it is none.
func read(r *words.Reader, vars, last int) ([]api.Line, bool) {
	var lines []api.Line
	for word := r.Word(); word != ""; word = r.Word() {
		number, ok := words.Number(word)
		if !ok || number != last && number != last+1 {
			return nil, false
		}
		line := api.Line{Delete: number == last}
		if line.Delete {
			ok = r.Word() == "d"
		} else {
			line.Lits, ok = r.Literals(vars)
		}
		if !ok {
			return nil, false
		}
		if line.Hints, ok = readHints(r); !ok {
			return nil, false
		}
		lines = append(lines, line)
		last = number
	}
	return lines, true
}

// readHints reads numbers from 1 on up to the 0 that ends them.
func readHints(r *words.Reader) ([]int, bool) {
	var hints []int
	for {
		word := r.Word()
		number, ok := words.Number(word)
		if !ok || len(word) > maxDigits {
			return nil, false
		}
		if number == 0 {
			return hints, true
		}
		hints = append(hints, number)
	}
}
