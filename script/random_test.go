package script_test

import (
	"math/rand"
	"slices"
	"strings"
	"testing"

	"arbiter/api"
	"arbiter/scan"
	"arbiter/script"
)

func sameBank(a, b api.Bank) bool {
	sameFun := func(f, g api.Fun) bool { return f.Name == g.Name && f.Out == g.Out && slices.Equal(f.Args, g.Args) }
	sameTerm := func(t, u api.Term) bool {
		return t.Op == u.Op && t.Fun == u.Fun && t.Num == u.Num && t.Sort == u.Sort && slices.Equal(t.Args, u.Args)
	}
	return slices.Equal(a.Sorts, b.Sorts) && slices.EqualFunc(a.Funs, b.Funs, sameFun) && slices.EqualFunc(a.Terms, b.Terms, sameTerm)
}

func sameCmd(c, d api.Cmd) bool {
	return c.Kind == d.Kind && c.Name == d.Name && c.Text == d.Text && c.N == d.N && slices.Equal(c.Terms, d.Terms)
}

// sameScript looks at all but the places.
func sameScript(a, b api.Script) bool {
	return sameBank(a.Bank, b.Bank) && slices.EqualFunc(a.Cmds, b.Cmds, sameCmd)
}

func samePlaces(a, b api.Script) bool {
	return slices.EqualFunc(a.Cmds, b.Cmds, func(c, d api.Cmd) bool { return c.At == d.At })
}

// look holds Parse against the plain way, and looks over C11 and C12.
func look(t *testing.T, text string) (api.Script, api.Errno, int) {
	t.Helper()
	s, e, place := script.Parse(text)
	want, f, at := plainParse(text)
	if e != f || place != at || !sameScript(s, want) || !samePlaces(s, want) {
		t.Fatalf("chapter 6: Parse(%q) = %+v, %d at %d, want %+v, %d at %d", text, s, e, place, want, f, at)
	}
	if f := script.Check(s); f != api.OK {
		t.Fatalf("C11: Parse(%q) = %+v is no script: %d", text, s, f)
	}
	printed, f := script.Print(s)
	if f != api.OK {
		t.Fatalf("C9: Print of what %q is read as: %d", text, f)
	}
	again, f, _ := script.Parse(printed)
	if f != api.OK || !sameScript(again, s) {
		t.Fatalf("C12: %q is printed as %q, which is read as %+v, %d", text, printed, again, f)
	}
	if twice, f := script.Print(again); f != api.OK || twice != printed {
		t.Fatalf("C12: %q is printed as %q, and again as %q, %d", text, printed, twice, f)
	}
	return s, e, place
}

func TestAgainstThePlainReader(t *testing.T) {
	count := map[api.Errno]int{}
	for seed := range int64(4000) {
		g := newGen(seed, []int{0, 60, 25}[seed%3])
		text := g.script(4 + g.rng.Intn(25)).short
		if seed%4 == 1 {
			text = g.mutate(text)
		}
		_, e, _ := look(t, text)
		count[e]++
	}
	for _, e := range []api.Errno{api.OK, api.ErrSyntax, api.ErrUnknown, api.ErrAgain, api.ErrReserved, api.ErrCommand, api.ErrMode, api.ErrLimit, api.ErrSort, api.ErrLinear, api.ErrZero, api.ErrClose, api.ErrOpen} {
		if count[e] == 0 {
			t.Errorf("no script with the error %d came up: %v", e, count)
		}
	}
	if count[api.OK] < 1000 {
		t.Errorf("too few scripts without an error: %v", count)
	}
}

// C13: a text may be cut behind each command.
func TestCut(t *testing.T) {
	for seed := range int64(150) {
		g := newGen(seed, 0)
		text := g.script(20).short
		whole, e, _ := script.Parse(text)
		if e != api.OK {
			t.Fatalf("%q: %d", text, e)
		}
		for cut := range len(text) + 1 {
			if cut < len(text) && text[cut] != '\n' {
				continue
			}
			part, e, place := script.Parse(text[:cut])
			ahead := 0
			for ahead < len(whole.Cmds) && whole.Cmds[ahead].At < cut {
				ahead++
			}
			// The bank of the part need not have what comes later; but with that left out it is the same.
			short := api.Script{Bank: whole.Bank, Cmds: whole.Cmds[:ahead]}
			if e != api.OK || place != 0 || !sameKinds(part, short) || !isPart(part.Bank, whole.Bank) || !slices.EqualFunc(part.Cmds, short.Cmds, sameCmd) {
				t.Fatalf("C13: %q cut at %d: %+v, %d at %d", text, cut, part, e, place)
			}
		}
	}
}

func sameKinds(a, b api.Script) bool {
	return slices.EqualFunc(a.Cmds, b.Cmds, func(c, d api.Cmd) bool { return c.Kind == d.Kind && c.At == d.At })
}

// isPart tells whether a is b up to some place: terms are numbered in the order in which commands need them.
func isPart(a, b api.Bank) bool {
	return len(a.Sorts) <= len(b.Sorts) && len(a.Funs) <= len(b.Funs) && len(a.Terms) <= len(b.Terms) &&
		sameBank(a, api.Bank{Sorts: b.Sorts[:len(a.Sorts)], Funs: b.Funs[:len(a.Funs)], Terms: b.Terms[:len(a.Terms)]})
}

// C13: white and comments between tokens change nothing but places.
func TestWhite(t *testing.T) {
	for seed := range int64(600) {
		g := newGen(seed, []int{0, 40}[seed%2])
		text := g.script(15).short
		s, e, place := script.Parse(text)
		tokens, f, _ := scan.Tokens(text)
		if f != api.OK {
			continue
		}
		moved := map[int]int{}
		var b strings.Builder
		for _, k := range tokens {
			b.WriteString(white(g.rng))
			moved[k.At] = b.Len()
			b.WriteString(text[k.At:k.End])
		}
		b.WriteString(white(g.rng))
		r, f, at := script.Parse(b.String())
		if e != f || !sameScript(s, r) || e != api.OK && at != moved[place] {
			t.Fatalf("C13: %q is read as %+v, %d at %d; %q as %+v, %d at %d", text, s, e, place, b.String(), r, f, at)
		}
		for i, c := range r.Cmds {
			if c.At != moved[s.Cmds[i].At] {
				t.Fatalf("C13: %q: the command %d is at %d", b.String(), i, c.At)
			}
		}
	}
}

func white(rng *rand.Rand) string {
	return []string{" ", "\n", "\t \r\n", "; a comment ) |\n", " ;\r", "  "}[rng.Intn(6)]
}

// C14: let, definitions and labels mean what they stand for.
func TestWrittenOut(t *testing.T) {
	terms := 0
	for seed := range int64(2000) {
		g := newGen(seed, 0)
		text := g.script(25)
		s, e, place := script.Parse(text.short)
		r, f, at := script.Parse(text.long)
		if e != api.OK || f != api.OK || !sameScript(s, r) {
			t.Fatalf("C14: %q: %+v, %d at %d; written out %q: %+v, %d at %d", text.short, s, e, place, text.long, r, f, at)
		}
		terms += len(s.Bank.Terms)
	}
	if terms < 20000 {
		t.Errorf("too few terms: %d", terms)
	}
}
