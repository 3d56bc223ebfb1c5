package script

import (
	"strings"

	"arbiter/api"
)

// scope is names with what they stand for. A later one hides those of the same name ahead of it, until it is taken back.
type scope[V any] struct {
	last  map[string]int // by name: how many entries there are up to the one that counts
	names []entry[V]
}

type entry[V any] struct {
	name   string
	value  V
	hidden int // what last said of the name ahead of this; 0: nothing
}

func newScope[V any]() scope[V] {
	return scope[V]{last: map[string]int{}}
}

func (s *scope[V]) find(name string) (V, bool) {
	at, ok := s.last[name]
	if !ok {
		var none V
		return none, false
	}
	return s.names[at-1].value, true
}

func (s *scope[V]) knows(name string) bool {
	_, ok := s.last[name]
	return ok
}

func (s *scope[V]) put(name string, value V) {
	s.names = append(s.names, entry[V]{name, value, s.last[name]})
	s.last[name] = len(s.names)
}

func (s *scope[V]) size() int {
	return len(s.names)
}

// back takes back all that was put behind the first size entries, and tells what that stood for.
func (s *scope[V]) back(size int) []V {
	var gone []V
	for i := len(s.names) - 1; i >= size; i-- {
		e := s.names[i]
		if e.hidden == 0 {
			delete(s.last, e.name)
		} else {
			s.last[e.name] = e.hidden
		}
		gone = append(gone, e.value)
	}
	s.names = s.names[:size]
	return gone
}

// state is what holds at a command of a script. V is what a function's name stands for: Parse needs to make terms of it, Check to know which function it is.
type state[V any] struct {
	sorts  scope[int] // those declared and defined
	funs   scope[V]   // functions, definitions and labels, in one space
	levels []mark
	begun  bool // a command has come behind which set-logic may not stand
}

// mark is how many names were known when a level was opened.
type mark struct {
	sorts, funs int
}

func newState[V any]() state[V] {
	return state[V]{sorts: newScope[int](), funs: newScope[V]()}
}

func (s *state[V]) sort(name string) (int, bool) {
	switch name {
	case "Bool":
		return api.SortBool, true
	case "Real":
		return api.SortReal, true
	}
	return s.sorts.find(name)
}

// push opens levels, and tells whether there may be as many.
func (s *state[V]) push(count int) bool {
	if count > api.MaxLevels-len(s.levels) {
		return false
	}
	for range count {
		s.levels = append(s.levels, mark{s.sorts.size(), s.funs.size()})
	}
	return true
}

// pop closes levels, and tells what functions' names stood for that are known no more, and whether there are as many levels.
func (s *state[V]) pop(count int) ([]V, bool) {
	if count > len(s.levels) {
		return nil, false
	}
	if count == 0 {
		return nil, true
	}
	rest := len(s.levels) - count
	first := s.levels[rest]
	s.levels = s.levels[:rest]
	s.sorts.back(first.sorts)
	return s.funs.back(first.funs), true
}

// forget closes all levels and makes all names unknown.
func (s *state[V]) forget() []V {
	s.levels = s.levels[:0]
	s.sorts.back(0)
	return s.funs.back(0)
}

// pass notes that a command of that kind has come; a definition has the kind 0.
func (s *state[V]) pass(kind int) {
	switch kind {
	case api.CmdSetOption, api.CmdSetInfo, api.CmdGetInfo, api.CmdGetOption, api.CmdEcho:
	case api.CmdReset:
		s.begun = false
	default:
		s.begun = true
	}
}

func isLogic(name string) bool {
	switch name {
	case "QF_UFLRA", "QF_UF", "QF_LRA", "ALL":
		return true
	}
	return false
}

// The names of the operators; OpNum and OpApp have none.
var operatorNames = [...]string{
	api.OpTrue:     "true",
	api.OpFalse:    "false",
	api.OpNot:      "not",
	api.OpImplies:  "=>",
	api.OpAnd:      "and",
	api.OpOr:       "or",
	api.OpXor:      "xor",
	api.OpEq:       "=",
	api.OpDistinct: "distinct",
	api.OpIte:      "ite",
	api.OpAdd:      "+",
	api.OpSub:      "-",
	api.OpMul:      "*",
	api.OpDiv:      "/",
	api.OpLe:       "<=",
	api.OpLt:       "<",
	api.OpGe:       ">=",
	api.OpGt:       ">",
}

// operator tells which operator has that name; 0: none.
func operator(name string) int {
	for op, known := range operatorNames {
		if known == name && name != "" {
			return op
		}
	}
	return 0
}

func isDotted(name string) bool {
	return strings.HasPrefix(name, "@") || strings.HasPrefix(name, ".")
}

func isReserved(name string) bool {
	return operator(name) != 0 || isDotted(name)
}

func isReservedSort(name string) bool {
	return name == "Bool" || name == "Real" || isDotted(name)
}

func isReservedLabel(name string) bool {
	return name == "" || isReserved(name)
}
