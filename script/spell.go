package script

import (
	"iter"
	"slices"
	"strconv"
	"strings"

	"arbiter/api"
	"arbiter/names"
	"arbiter/num"
	"arbiter/term"
	"arbiter/walk"
)

// Spell writes a term.
func Spell(b api.Bank, t int) (string, api.Errno) {
	if err := term.Check(b); err != api.OK {
		return "", err
	}
	if t < 0 || t >= len(b.Terms) {
		return "", api.ErrIndex
	}
	for u := range below(b, t) {
		if b.Terms[u].Op == api.OpApp && !isName(b.Funs[b.Terms[u].Fun].Name) {
			return "", api.ErrName
		}
	}
	return spell(b, t), api.OK
}

// below goes through what a term is made of, and the term, each behind its arguments.
func below(b api.Bank, t int) iter.Seq[int] {
	return walk.Up([]int{t}, func(u int) []int { return b.Terms[u].Args })
}

// spell writes a term all of whose functions have names that can be written.
func spell(b api.Bank, t int) string {
	order := slices.Collect(below(b, t))
	s := &speller{bank: b, names: map[int]int{}}
	shared := s.shared(order)
	s.giveNames(order, shared)
	for _, u := range shared {
		s.out.WriteString("(let ((")
		s.name(u)
		s.out.WriteByte(' ')
		s.whole(u)
		s.out.WriteString(")) ")
	}
	s.whole(t)
	s.out.WriteString(strings.Repeat(")", len(shared)))
	return s.out.String()
}

// speller writes a term with names for the parts that it has more than once.
type speller struct {
	bank  api.Bank
	names map[int]int // by shared term: the number in its name
	open  []opened
	out   strings.Builder
}

// opened is a term whose list is being written.
type opened struct {
	args []int
	next int
}

// shared tells which terms, of those that the last one is made of, get names.
func (s *speller) shared(order []int) []int {
	uses := map[int]int{}
	for _, u := range order {
		for _, a := range s.bank.Terms[u].Args {
			uses[a]++
		}
	}
	var list []int
	for _, u := range order {
		if uses[u] > 1 && len(s.bank.Terms[u].Args) > 0 {
			list = append(list, u)
		}
	}
	return list
}

// giveNames numbers the shared terms, and leaves out the names that functions of the term have.
func (s *speller) giveNames(order, shared []int) {
	funs := map[string]int{}
	for _, u := range order {
		if t := s.bank.Terms[u]; t.Op == api.OpApp {
			funs[s.bank.Funs[t.Fun].Name] = t.Fun
		}
	}
	next := 0
	for _, u := range shared {
		for isIn(funs, name(next)) {
			next++
		}
		s.names[u] = next
		next++
	}
}

func isIn(funs map[string]int, name string) bool {
	_, ok := funs[name]
	return ok
}

func name(number int) string {
	return "$" + strconv.Itoa(number)
}

func (s *speller) name(t int) {
	s.out.WriteString(name(s.names[t]))
}

// whole writes a term itself, be it shared or not; terms nest deeper than calls should, so the open lists stand on a stack.
func (s *speller) whole(t int) {
	s.begin(t)
	for len(s.open) > 0 {
		top := &s.open[len(s.open)-1]
		if top.next == len(top.args) {
			s.open = s.open[:len(s.open)-1]
			s.out.WriteByte(')')
			continue
		}
		a := top.args[top.next]
		top.next++
		s.out.WriteByte(' ')
		if _, ok := s.names[a]; ok {
			s.name(a)
		} else {
			s.begin(a)
		}
	}
}

// begin writes a term up to its first argument.
func (s *speller) begin(t int) {
	args := s.bank.Terms[t].Args
	if len(args) > 0 {
		s.out.WriteByte('(')
		s.open = append(s.open, opened{args: args})
	}
	s.out.WriteString(s.head(s.bank.Terms[t]))
}

func (s *speller) head(t api.Term) string {
	switch t.Op {
	case api.OpNum:
		text, _ := num.Spell(t.Num)
		return text
	case api.OpApp:
		return quoted(s.bank.Funs[t.Fun].Name)
	}
	return names.OfOperator(t.Op)
}
