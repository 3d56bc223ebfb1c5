// Package unit holds literals, level upon level, and goes on from them by unit propagation over clauses: for seek and rup.
package unit

import (
	"cmp"
	"math"
	"slices"
)

// None is no clause: the reason of a literal that was held by itself; what Run answers where nothing clashes.
const None = -1

// clause is literals, each once; the first two are watched.
type clause struct {
	lits []int
	from int // it plays a part where upto is above this number: its own, or one that nothing is above
	next int // where the next literal to be watched is looked for first, going round: from the begin, a long clause would take a time that grows with the square of its length
}

// watch is a clause that is to be looked at when a literal becomes false.
type watch struct {
	clause int
	other  int // a literal of it: where that is held, there is nothing to look at
}

// fact is how a variable came to be held.
type fact struct {
	reason, level, place int
}

// State is clauses, the literals that are held, and why they are.
type State struct {
	vars    int
	clauses []clause
	watches [][]watch // by literal, as values is
	values  []int8    // at a literal and vars: 1 if it is held, -1 if its opposite is, else 0
	facts   []fact    // by variable
	trail   []int     // the literals that are held
	head    int       // those of the trail ahead of it have been gone on from
	starts  []int     // by level, less one: the length of the trail when it was opened
	upto    int       // the clauses below it play a part
}

// New is a state of the variables 1 to vars, without clauses; nothing is held, on level 0.
func New(vars int) *State {
	return &State{
		vars:    vars,
		watches: make([][]watch, 2*vars+1),
		values:  make([]int8, 2*vars+1),
		facts:   make([]fact, vars+1),
		upto:    math.MaxInt,
	}
}

// Variable tells the variable of a literal.
func Variable(lit int) int {
	return max(lit, -lit)
}

// Once tells the literals of a clause by their variables, each one time, in new memory.
func Once(lits []int) []int {
	list := slices.Clone(lits)
	slices.SortFunc(list, func(a, b int) int { return cmp.Or(cmp.Compare(Variable(a), Variable(b)), cmp.Compare(b, a)) })
	return slices.Compact(list)
}

// Value tells whether a literal is held (1), its opposite is (-1), or neither (0).
func (s *State) Value(lit int) int8 {
	return s.values[lit+s.vars]
}

// Lits tells the literals of a clause, the watched ones first. They are the state's.
func (s *State) Lits(clause int) []int {
	return s.clauses[clause].lits
}

// Trail tells the literals that are held, in the order in which they came. The list is the state's.
func (s *State) Trail() []int {
	return s.trail
}

// Reason tells the clause by which a literal's variable is held.
func (s *State) Reason(lit int) int {
	return s.facts[Variable(lit)].reason
}

// LevelOf tells the level on which a literal's variable is held.
func (s *State) LevelOf(lit int) int {
	return s.facts[Variable(lit)].level
}

// PlaceOf tells where on the trail the literal of a literal's variable is.
func (s *State) PlaceOf(lit int) int {
	return s.facts[Variable(lit)].place
}

// Level tells how many levels are open.
func (s *State) Level() int {
	return len(s.starts)
}

// Start tells how long the trail was when a level, from 1 on, was opened.
func (s *State) Start(level int) int {
	return s.starts[level-1]
}

// Open opens a level.
func (s *State) Open() {
	s.starts = append(s.starts, len(s.trail))
}

// Back takes back all that is held on levels above this one, of which there must be some.
func (s *State) Back(level int) {
	start := s.starts[level]
	for _, lit := range s.trail[start:] {
		s.values[lit+s.vars] = 0
		s.values[-lit+s.vars] = 0
	}
	s.trail = s.trail[:start]
	s.head = start
	s.starts = s.starts[:level]
}

// Hold holds a literal that neither is held nor its opposite.
func (s *State) Hold(lit, reason int) {
	s.values[lit+s.vars] = 1
	s.values[-lit+s.vars] = -1
	s.facts[Variable(lit)] = fact{reason, len(s.starts), len(s.trail)}
	s.trail = append(s.trail, lit)
}

// HoldBy says that a literal that is held follows by another clause too, of which it is the only literal: that is its reason from now on.
func (s *State) HoldBy(lit, reason int) {
	s.facts[Variable(lit)].reason = reason
}

// Put takes a clause in, as the next number; its literals, each once, are the state's from then on. Nothing is held by it yet: if it says something already, its first literal is the one that is to be held (or not to be false), and its second the one of the latest level.
func (s *State) Put(lits []int) int {
	number := len(s.clauses)
	s.clauses = append(s.clauses, clause{lits, number, 2})
	for at := range min(len(lits), 2) {
		s.bring(lits, at)
	}
	if len(lits) > 1 {
		s.addWatch(lits[0], number, lits[1])
		s.addWatch(lits[1], number, lits[0])
	}
	return number
}

func (s *State) addWatch(lit, clause, other int) {
	s.watches[lit+s.vars] = append(s.watches[lit+s.vars], watch{clause, other})
}

// bring brings to a place the one of the literals from there on that is false last.
func (s *State) bring(lits []int, at int) {
	best := at
	for i := at; i < len(lits); i++ {
		if s.Value(lits[i]) >= 0 {
			best = i
			break
		}
		if s.LevelOf(lits[i]) > s.LevelOf(lits[best]) {
			best = i
		}
	}
	lits[at], lits[best] = lits[best], lits[at]
}

// Upto lets only the clauses below a number play a part from now on.
func (s *State) Upto(number int) {
	s.upto = number
}

// Mute lets a clause play no part any more.
func (s *State) Mute(clause int) {
	s.clauses[clause].from = math.MaxInt
}

// Wake lets a clause that is mute play its part again.
func (s *State) Wake(clause int) {
	s.clauses[clause].from = clause
}

// Sweep lets go of the clauses that play no part; they must not be woken, and no literal that is asked about is held by one.
func (s *State) Sweep() {
	for i, list := range s.watches {
		kept := list[:0]
		for _, w := range list {
			if s.Plays(w.clause) {
				kept = append(kept, w)
			}
		}
		s.watches[i] = kept
	}
	for i := range s.clauses {
		if !s.Plays(i) {
			s.clauses[i].lits = nil
		}
	}
}

// Plays tells whether a clause plays a part.
func (s *State) Plays(clause int) bool {
	return s.clauses[clause].from < s.upto
}

// Run goes on from what is held, until nothing more follows: None; or until all literals of a clause are false: that clause.
func (s *State) Run() int {
	for s.head < len(s.trail) {
		lit := -s.trail[s.head]
		s.head++
		if clash := s.visit(lit); clash != None {
			return clash
		}
	}
	return None
}

// visit looks at the clauses that watch a literal which has become false, and tells one that clashes.
func (s *State) visit(lit int) int {
	list := s.watches[lit+s.vars]
	kept := 0
	clash := None
next:
	for i, w := range list {
		list[kept] = w
		kept++
		if s.Value(w.other) > 0 || !s.Plays(w.clause) {
			continue
		}
		c := &s.clauses[w.clause]
		lits := c.lits
		if lits[0] == lit {
			lits[0], lits[1] = lits[1], lits[0]
		}
		first := lits[0]
		list[kept-1].other = first
		if s.Value(first) > 0 {
			continue
		}
		for range len(lits) - 2 {
			k := c.next
			if s.Value(lits[k]) >= 0 {
				lits[1], lits[k] = lits[k], lits[1]
				s.addWatch(lits[1], w.clause, first)
				kept--
				continue next
			}
			c.next++
			if c.next == len(lits) {
				c.next = 2
			}
		}
		if s.Value(first) < 0 {
			clash = w.clause
			kept += copy(list[kept:], list[i+1:])
			break
		}
		s.Hold(first, w.clause)
	}
	s.watches[lit+s.vars] = list[:kept]
	return clash
}
