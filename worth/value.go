// Package worth reckons what terms are worth where functions are worth what tables say, for the layers that ask for many terms at one time.
package worth

import (
	"cmp"
	"strconv"

	"arbiter/api"
	"arbiter/num"
	"arbiter/rat"
)

// Value is what a term can be worth. Those that are held against one another are of one sort, so of one kind.
type Value interface {
	Sort() int
	Same(other Value) bool
	Compare(other Value) int     // -1, 0 or 1, as it stands ahead of the other, is the other, or stands behind it
	Spell(sorts []string) string // sorts: by number, how their names are written
}

// Truth is what a Bool term is worth.
type Truth bool

// Number is what a Real term is worth.
type Number struct {
	rat.Rat
}

// Element is what a term of a declared sort is worth.
type Element struct {
	Of int
	N  int
}

// Sort tells the sort.
func (x Truth) Sort() int { return api.SortBool }

// Sort tells the sort.
func (x Number) Sort() int { return api.SortReal }

// Sort tells the sort.
func (x Element) Sort() int { return x.Of }

// Same tells whether the two are one.
func (x Truth) Same(other Value) bool {
	y, ok := other.(Truth)
	return ok && x == y
}

// Same tells whether the two are one.
func (x Number) Same(other Value) bool {
	return x.Compare(other) == 0
}

// Same tells whether the two are one.
func (x Element) Same(other Value) bool {
	y, ok := other.(Element)
	return ok && x == y
}

// Compare sets false ahead of true.
func (x Truth) Compare(other Value) int {
	if x.Same(other) {
		return 0
	}
	if x {
		return 1
	}
	return -1
}

// Compare goes by the size.
func (x Number) Compare(other Value) int {
	y, _ := other.(Number)
	return x.Cmp(y.Rat)
}

// Compare goes by the number of the element.
func (x Element) Compare(other Value) int {
	y, _ := other.(Element)
	return cmp.Compare(x.N, y.N)
}

// Spell writes the value.
func (x Truth) Spell(sorts []string) string {
	return strconv.FormatBool(bool(x))
}

// Spell writes the value.
func (x Number) Spell(sorts []string) string {
	text, _ := num.Spell(x.Text())
	return text
}

// Spell writes the value.
func (x Element) Spell(sorts []string) string {
	return "(as @" + strconv.Itoa(x.N) + " " + sorts[x.Of] + ")"
}

// IsTrue asks a value of sort Bool.
func IsTrue(v Value) bool {
	return v.Same(Truth(true))
}

// inOrder tells how two values stand to one another: -1, 0 or 1.
func inOrder(a, b Value) int {
	return a.Compare(b)
}

// Of tells the value that plain data is, and whether it is one of that sort.
func Of(v api.Value, sort int) (Value, bool) {
	if v.Sort != sort {
		return nil, false
	}
	switch sort {
	case api.SortBool:
		return Truth(v.N == 1), (v.N == 0 || v.N == 1) && v.R == ""
	case api.SortReal:
		q, ok := rat.Parse(v.R)
		return Number{q}, ok && v.N == 0
	}
	return Element{sort, v.N}, v.N >= 0 && v.R == ""
}

// Plain turns a value back into plain data.
func Plain(v Value) api.Value {
	out := api.Value{Sort: v.Sort()}
	switch x := v.(type) {
	case Truth:
		if x {
			out.N = 1
		}
	case Number:
		out.R = x.Text()
	case Element:
		out.N = x.N
	}
	return out
}
