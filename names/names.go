// Package names keeps which names are known at a command of a script, and tells which may be given: for intake, which reads commands, and script, which looks them over.
package names

import (
	"strings"

	"arbiter/api"
)

// Scope is names with what they stand for. A later one hides those of the same name ahead of it, until it is taken back.
type Scope[V any] struct {
	last  map[string]int // by name: how many entries there are up to the one that counts
	names []entry[V]
}

type entry[V any] struct {
	name   string
	value  V
	hidden int // what last said of the name ahead of this; 0: nothing
}

// NewScope is a scope without names.
func NewScope[V any]() Scope[V] {
	return Scope[V]{last: map[string]int{}}
}

// Find tells what a name stands for, and whether it is known.
func (s *Scope[V]) Find(name string) (V, bool) {
	at, ok := s.last[name]
	if !ok {
		var none V
		return none, false
	}
	return s.names[at-1].value, true
}

// Knows tells whether a name is known.
func (s *Scope[V]) Knows(name string) bool {
	_, ok := s.last[name]
	return ok
}

// Put makes a name known.
func (s *Scope[V]) Put(name string, value V) {
	s.names = append(s.names, entry[V]{name, value, s.last[name]})
	s.last[name] = len(s.names)
}

// Size tells how many entries there are.
func (s *Scope[V]) Size() int {
	return len(s.names)
}

// Back takes back all that was put behind the first size entries, and tells what that stood for.
func (s *Scope[V]) Back(size int) []V {
	var gone []V
	for i := len(s.names) - 1; i >= size; i-- {
		e := s.names[i]
		if e.hidden == 0 {
			delete(s.last, e.name)
		} else {
			s.last[e.name] = e.hidden
		}
		gone = append(gone, e.value)
	}
	s.names = s.names[:size]
	return gone
}

// State is what holds at a command of a script. V is what a function's name stands for: who reads needs to make terms of it, who looks over to know which function it is.
type State[V any] struct {
	Sorts  Scope[int] // those declared and defined
	Funs   Scope[V]   // functions, definitions and labels, in one space
	levels []mark
	Begun  bool // a command has come behind which set-logic may not stand
}

// mark is how many names were known when a level was opened.
type mark struct {
	sorts, funs int
}

// NewState is the state at the begin of a script.
func NewState[V any]() State[V] {
	return State[V]{Sorts: NewScope[int](), Funs: NewScope[V]()}
}

// Sort tells the sort of a name, and whether it is known as one.
func (s *State[V]) Sort(name string) (int, bool) {
	switch name {
	case "Bool":
		return api.SortBool, true
	case "Real":
		return api.SortReal, true
	}
	return s.Sorts.Find(name)
}

// Push opens levels, and tells whether there may be as many.
func (s *State[V]) Push(count int) bool {
	if count > api.MaxLevels-len(s.levels) {
		return false
	}
	for range count {
		s.levels = append(s.levels, mark{s.Sorts.Size(), s.Funs.Size()})
	}
	return true
}

// Pop closes levels, and tells what functions' names stood for that are known no more, and whether there are as many levels.
func (s *State[V]) Pop(count int) ([]V, bool) {
	if count > len(s.levels) {
		return nil, false
	}
	if count == 0 {
		return nil, true
	}
	rest := len(s.levels) - count
	first := s.levels[rest]
	s.levels = s.levels[:rest]
	s.Sorts.Back(first.sorts)
	return s.Funs.Back(first.funs), true
}

// Forget closes all levels and makes all names unknown.
func (s *State[V]) Forget() []V {
	s.levels = s.levels[:0]
	s.Sorts.Back(0)
	return s.Funs.Back(0)
}

// Pass notes that a command of that kind has come; a definition has the kind 0.
func (s *State[V]) Pass(kind int) {
	switch kind {
	case api.CmdSetOption, api.CmdSetInfo, api.CmdGetInfo, api.CmdGetOption, api.CmdEcho:
	case api.CmdReset:
		s.Begun = false
	default:
		s.Begun = true
	}
}

// IsLogic tells whether a logic of that name may be set.
func IsLogic(name string) bool {
	switch name {
	case "QF_UFLRA", "QF_UF", "QF_LRA", "ALL":
		return true
	}
	return false
}

// The names of the operators; OpNum and OpApp have none.
var operatorNames = [...]string{
	api.OpTrue:     "true",
	api.OpFalse:    "false",
	api.OpNot:      "not",
	api.OpImplies:  "=>",
	api.OpAnd:      "and",
	api.OpOr:       "or",
	api.OpXor:      "xor",
	api.OpEq:       "=",
	api.OpDistinct: "distinct",
	api.OpIte:      "ite",
	api.OpAdd:      "+",
	api.OpSub:      "-",
	api.OpMul:      "*",
	api.OpDiv:      "/",
	api.OpLe:       "<=",
	api.OpLt:       "<",
	api.OpGe:       ">=",
	api.OpGt:       ">",
}

// OfOperator tells the name of an operator.
func OfOperator(op int) string {
	return operatorNames[op]
}

// Operator tells which operator has that name; 0: none.
func Operator(name string) int {
	for op, known := range operatorNames {
		if known == name && name != "" {
			return op
		}
	}
	return 0
}

func isDotted(name string) bool {
	return strings.HasPrefix(name, "@") || strings.HasPrefix(name, ".")
}

// IsReserved tells whether no function may have that name.
func IsReserved(name string) bool {
	return Operator(name) != 0 || isDotted(name)
}

// IsReservedSort tells whether no sort may have that name.
func IsReservedSort(name string) bool {
	return name == "Bool" || name == "Real" || isDotted(name)
}

// IsReservedLabel tells whether no label may be that name.
func IsReservedLabel(name string) bool {
	return name == "" || IsReserved(name)
}
