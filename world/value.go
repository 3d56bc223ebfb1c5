package world

import (
	"cmp"
	"strconv"

	"arbiter/api"
	"arbiter/num"
	"arbiter/rat"
)

// value is what a term can be worth. Those that are held against one another are of one sort, so of one kind.
type value interface {
	sort() int
	same(other value) bool
	compare(other value) int     // -1, 0 or 1, as it stands ahead of the other, is the other, or stands behind it
	spell(sorts []string) string // sorts: by number, how their names are written
}

// truth is what a Bool term is worth.
type truth bool

// number is what a Real term is worth.
type number struct {
	rat.Rat
}

// element is what a term of a declared sort is worth.
type element struct {
	of int
	n  int
}

func (x truth) sort() int   { return api.SortBool }
func (x number) sort() int  { return api.SortReal }
func (x element) sort() int { return x.of }

func (x truth) same(other value) bool {
	y, ok := other.(truth)
	return ok && x == y
}

func (x number) same(other value) bool {
	return x.compare(other) == 0
}

func (x element) same(other value) bool {
	y, ok := other.(element)
	return ok && x == y
}

func (x truth) compare(other value) int {
	if x.same(other) {
		return 0
	}
	if x {
		return 1
	}
	return -1
}

func (x number) compare(other value) int {
	y, _ := other.(number)
	return x.Cmp(y.Rat)
}

func (x element) compare(other value) int {
	y, _ := other.(element)
	return cmp.Compare(x.n, y.n)
}

func (x truth) spell(sorts []string) string {
	return strconv.FormatBool(bool(x))
}

func (x number) spell(sorts []string) string {
	text, _ := num.Spell(x.Text())
	return text
}

func (x element) spell(sorts []string) string {
	return "(as @" + strconv.Itoa(x.n) + " " + sorts[x.of] + ")"
}

// isTrue asks a value of sort Bool.
func isTrue(v value) bool {
	return v.same(truth(true))
}

// inOrder tells how two values stand to one another: -1, 0 or 1.
func inOrder(a, b value) int {
	return a.compare(b)
}

// valueOf tells the value that plain data is, and whether it is one of that sort of a bank.
func valueOf(v api.Value, sort int) (value, bool) {
	if v.Sort != sort {
		return nil, false
	}
	switch sort {
	case api.SortBool:
		return truth(v.N == 1), (v.N == 0 || v.N == 1) && v.R == ""
	case api.SortReal:
		q, ok := rat.Parse(v.R)
		return number{q}, ok && v.N == 0
	}
	return element{sort, v.N}, v.N >= 0 && v.R == ""
}

// plain turns a value back into plain data.
func plain(v value) api.Value {
	out := api.Value{Sort: v.sort()}
	switch x := v.(type) {
	case truth:
		if x {
			out.N = 1
		}
	case number:
		out.R = x.Text()
	case element:
		out.N = x.n
	}
	return out
}
