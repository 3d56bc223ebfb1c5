package prep

import (
	"strconv"

	"arbiter/api"
)

// found tells where the atoms and the forms of these parts stand.
type found struct {
	atoms map[atomParts]int
	forms map[formParts]int
}

type atomParts struct {
	kind, l, r int
	con        string
}

type formParts struct {
	op, atom int
	args     string
}

func newFound() found {
	return found{map[atomParts]int{}, map[formParts]int{}}
}

// limit is what the making gives up with.
type limit struct {
	err api.Errno
}

// addAtom adds an atom, and the form of it; what it is given becomes the goal's.
func (m *maker) addAtom(a api.Atom) int {
	parts := atomParts{a.Kind, a.L, a.R, spelled(a.Con.F)}
	at, ok := m.found.atoms[parts]
	if !ok {
		if len(m.goal.Atoms) == api.MaxAtoms {
			panic(limit{api.ErrLimit})
		}
		at = len(m.goal.Atoms)
		m.found.atoms[parts] = at
		m.goal.Atoms = append(m.goal.Atoms, a)
	}
	return m.add(api.Form{Op: api.FormAtom, Atom: at})
}

func (m *maker) addForm(op int, args ...int) int {
	return m.add(api.Form{Op: op, Args: args})
}

// add finds a form, or puts it behind all others; what it is given stays the caller's.
func (m *maker) add(f api.Form) int {
	parts := formParts{f.Op, f.Atom, packed(f.Args)}
	if at, ok := m.found.forms[parts]; ok {
		return at
	}
	if len(m.goal.Forms) == api.MaxForms {
		panic(limit{api.ErrLimit})
	}
	at := len(m.goal.Forms)
	m.found.forms[parts] = at
	f.Args = append([]int(nil), f.Args...)
	m.goal.Forms = append(m.goal.Forms, f)
	return at
}

// spelled writes a linear form, so that forms can be held against each other as texts. The constraints of atoms are all of one operator.
func spelled(f api.Lin) string {
	if f.K == "" {
		return ""
	}
	var out []byte
	for _, mono := range f.M {
		out = strconv.AppendInt(out, int64(mono.V), 10)
		out = append(out, '*')
		out = append(out, mono.C...)
		out = append(out, ' ')
	}
	return string(append(out, f.K...))
}

// packed lays the numbers of forms down as bytes. Four of them are enough: there are at most MaxForms forms.
func packed(forms []int) string {
	out := make([]byte, 0, 4*len(forms))
	for _, f := range forms {
		out = append(out, byte(f), byte(f>>8), byte(f>>16), byte(f>>24))
	}
	return string(out)
}
