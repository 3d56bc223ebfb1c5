// Package intake reads the commands of a script, one after the other, and what stands in them as terms of one work bank: for script, which reads texts that are whole, and arbiter, which reads them piece by piece.
package intake

import (
	"slices"

	"arbiter/api"
	"arbiter/names"
	"arbiter/term"
	"arbiter/walk"
)

// Violation is what the reading gives up with, by panic, from however deep within.
type Violation struct {
	Err api.Errno
	At  int
}

func fail(err api.Errno, at int) {
	panic(Violation{err, at})
}

// Caught tells the violation that was recovered; anything else goes on as it came.
func Caught(given any) Violation {
	v, ok := given.(Violation)
	if !ok {
		panic(given)
	}
	return v
}

// must gives up at that place if a call of the bank was refused.
func must(t int, err api.Errno, at int) int {
	if err != api.OK {
		fail(err, at)
	}
	return t
}

// Reader reads a script into a work bank. Behind a violation it is of no more use but to tell what was read ahead of that.
type Reader struct {
	known   names.State[maker]
	bound   names.Scope[maker] // names of let and of parameters, which hide those that are known
	table   map[string]command
	nodes   []api.Node
	bank    *term.Bank
	sorts   []string    // those of the work bank
	funs    []api.Fun   // those that the script declares
	numbers map[int]int // by function of the work bank, which has the parameters of definitions too: its number in the script
	frames  []frame     // the lists that are open, of the term that is being read
	read    []int       // the terms read so far in these
}

// New is a reader that has read nothing.
func New() *Reader {
	r := &Reader{known: names.NewState[maker](), bound: names.NewScope[maker](), table: map[string]command{}, bank: term.New(), numbers: map[int]int{}}
	for _, c := range commands() {
		r.table[c.word] = c
	}
	return r
}

// Next reads the command that is the expression at a place of a forest, and gives up at a violation. Its terms are those of the work bank. A definition has the kind 0.
func (r *Reader) Next(nodes []api.Node, at int) api.Cmd {
	r.nodes = nodes
	return r.command(at)
}

// Funs tells how many functions the script has declared so far.
func (r *Reader) Funs() int {
	return len(r.funs)
}

// Excerpt tells a bank with the sorts declared so far, these functions of the script alone, in this order, and the terms alone that the roots are made of, which must need no other function: numbered as term.Compact does. And it tells the numbers of the roots in it.
func (r *Reader) Excerpt(funs, roots []int) (api.Bank, []int) {
	bank := api.Bank{Sorts: slices.Clone(r.sorts)}
	anew := make(map[int]int, len(funs)) // by function of the script
	for i, f := range funs {
		anew[f] = i
		fun := r.funs[f]
		fun.Args = slices.Clone(fun.Args)
		bank.Funs = append(bank.Funs, fun)
	}
	number := map[int]int{} // by term of the work bank
	for t := range walk.Up(roots, r.args) {
		number[t] = len(bank.Terms)
		v, _ := r.bank.View(t)
		if v.Op == api.OpApp {
			v.Fun = anew[r.numbers[v.Fun]]
		}
		for i, a := range v.Args {
			v.Args[i] = number[a]
		}
		bank.Terms = append(bank.Terms, v)
	}
	own := make([]int, len(roots))
	for i, root := range roots {
		own[i] = number[root]
	}
	return bank, own
}

// FunsOf tells the functions of the script that a term is made of, in rising order.
func (r *Reader) FunsOf(root int) []int {
	var funs []int
	for t := range walk.Up([]int{root}, r.args) {
		if v, _ := r.bank.View(t); v.Op == api.OpApp {
			funs = append(funs, r.numbers[v.Fun])
		}
	}
	slices.Sort(funs)
	return slices.Compact(funs)
}

func (r *Reader) args(t int) []int {
	v, _ := r.bank.View(t)
	return v.Args
}
