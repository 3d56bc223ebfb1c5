package world_test

import (
	"math/big"
	"math/rand"
	"slices"
	"strconv"
	"strings"
	"testing"

	"arbiter/api"
	"arbiter/term"
	"arbiter/world"
)

// gen makes banks, structures and texts by chance.
type gen struct {
	rng *rand.Rand
	maker
}

func newGen(t *testing.T, seed int64) *gen {
	g := &gen{rand.New(rand.NewSource(seed)), newMaker(t, "U", "a sort")}
	for sort := range 4 { // a constant of each sort, so that there are terms of each
		g.app(g.fun("c"+strconv.Itoa(sort), sort))
	}
	for range 2 + g.rng.Intn(6) {
		var args []int
		for range g.rng.Intn(4) {
			args = append(args, g.rng.Intn(4))
		}
		g.fun([]string{"f", "g", "x0", "", "not", "a b", "@f"}[g.rng.Intn(7)], g.rng.Intn(4), args...)
	}
	for range 30 + g.rng.Intn(40) {
		g.term()
	}
	return g
}

// pick tells a term of that sort.
func (g *gen) pick(b api.Bank, sort int) int {
	for {
		if t := g.rng.Intn(len(b.Terms)); b.Terms[t].Sort == sort {
			return t
		}
	}
}

func (g *gen) picks(b api.Bank, sort, count int) []int {
	var list []int
	for range count {
		list = append(list, g.pick(b, sort))
	}
	return list
}

// term makes one more term, or none, if it is refused.
func (g *gen) term() {
	b := g.Export()
	switch g.rng.Intn(5) {
	case 0:
		g.num(numbers[g.rng.Intn(len(numbers))])
	case 1, 2:
		fun := g.rng.Intn(len(b.Funs))
		var args []int
		for _, s := range b.Funs[fun].Args {
			args = append(args, g.pick(b, s))
		}
		g.app(fun, args...)
	default:
		op := 1 + g.rng.Intn(20)
		sort, count := api.SortReal, 1+g.rng.Intn(4)
		switch {
		case op <= api.OpFalse:
			count = 0
		case op == api.OpNot:
			sort, count = api.SortBool, 1
		case op >= api.OpImplies && op <= api.OpXor:
			sort = api.SortBool
		case op == api.OpEq || op == api.OpDistinct:
			sort = g.rng.Intn(4)
		case op == api.OpIte:
			s := g.rng.Intn(4)
			g.Op(op, append(g.picks(b, api.SortBool, 1), g.picks(b, s, 2)...))
			return
		}
		g.Op(op, g.picks(b, sort, count))
	}
}

var numbers = []string{"0", "1", "-1", "2", "1/2", "-7/3", "100", "-12345678901234567890123/7"}

// value is one of so few that they meet often.
func (g *gen) value(sort int) api.Value {
	switch sort {
	case api.SortBool:
		return truth(g.rng.Intn(2))
	case api.SortReal:
		return number(numbers[g.rng.Intn(len(numbers))])
	}
	return api.Value{Sort: sort, N: g.rng.Intn(4)}
}

func (g *gen) table(f api.Fun) api.Table {
	t := api.Table{Else: g.value(f.Out)}
	for range g.rng.Intn(9) {
		r := api.Row{Out: g.value(f.Out)}
		for _, s := range f.Args {
			r.Args = append(r.Args, g.value(s))
		}
		t.Rows = append(t.Rows, r)
	}
	return t
}

func (g *gen) model(b api.Bank) api.Model {
	var m api.Model
	for _, f := range b.Funs {
		m.Tables = append(m.Tables, g.table(f))
	}
	return m
}

// look goes through that many banks, each with a structure.
func look(t *testing.T, count int, at func(g *gen, b api.Bank, m api.Model)) {
	t.Helper()
	for seed := range int64(count) {
		g := newGen(t, seed)
		b := g.Export()
		at(g, b, g.model(b))
	}
}

func TestAgainstThePlainWay(t *testing.T) {
	look(t, 400, func(g *gen, b api.Bank, m api.Model) {
		if e, at := world.Check(b, m); e != api.OK || at != 0 {
			t.Fatalf("W2: %+v in %+v: %d, %d", m, b, e, at)
		}
		canonical := plainTidy(b, m)
		if n := tidy(t, b, m); !sameModel(n, canonical) {
			t.Fatalf("W3: Tidy(%+v) = %+v, want %+v", m, n, canonical)
		}
		if s := shown(t, b, m); s != plainShow(b, canonical) {
			t.Fatalf("W7: Show(%+v) = %s, want %s", m, s, plainShow(b, canonical))
		}
		var truths []int
		first := -1
		for i, u := range b.Terms {
			want := plainEval(b, m, i)
			if v := eval(t, b, m, i); v != want {
				t.Fatalf("W4: the term %d of %+v in %+v is worth %v, want %v", i, b, m, v, want)
			}
			if u.Sort == api.SortBool && (want.N == 1 || g.rng.Intn(3) == 0) {
				if want.N == 0 && first < 0 {
					first = len(truths)
				}
				truths = append(truths, i)
			}
			if s, e := world.Spell(b, want); e != api.OK || s != plainSpell(b, want) {
				t.Fatalf("W6: Spell(%v) = %q, %d", want, s, e)
			}
		}
		if n, e := world.Holds(b, m, truths); n != first || e != api.OK {
			t.Fatalf("W5: Holds(%v) = %d, %d, want %d", truths, n, e, first)
		}
	})
}

// spoil changes one value, one list or the number of tables.
func (g *gen) spoil(m *api.Model) {
	t := &m.Tables[g.rng.Intn(len(m.Tables))]
	v := &t.Else
	if len(t.Rows) > 0 && g.rng.Intn(3) > 0 {
		r := &t.Rows[g.rng.Intn(len(t.Rows))]
		v = &r.Out
		if len(r.Args) > 0 && g.rng.Intn(2) == 0 {
			v = &r.Args[g.rng.Intn(len(r.Args))]
		}
		if g.rng.Intn(6) == 0 {
			r.Args = append(r.Args, g.value(g.rng.Intn(4)))[g.rng.Intn(2):]
		}
	}
	switch g.rng.Intn(6) {
	case 0:
		v.Sort = g.rng.Intn(6) - 1
	case 1:
		v.N = g.rng.Intn(5) - 2
	case 2:
		v.R = []string{"", "0", "-1", "2/2", "x", "1/3"}[g.rng.Intn(6)]
	case 3:
		*v = g.value(g.rng.Intn(4))
	case 4:
		if g.rng.Intn(3) == 0 {
			m.Tables = append(m.Tables, api.Table{})[g.rng.Intn(2):]
		}
	}
}

func TestCheckOfSpoiltStructures(t *testing.T) {
	good, bad := 0, 0
	look(t, 300, func(g *gen, b api.Bank, m api.Model) {
		for range 10 {
			n := cloneModel(m)
			for range 1 + g.rng.Intn(2) {
				g.spoil(&n)
			}
			want, place := plainCheck(b, n)
			if want == api.OK {
				good++
				if e, at := world.Check(b, n); e != api.OK || at != 0 {
					t.Fatalf("W2: Check(%+v) = %d, %d", n, e, at)
				}
				continue
			}
			bad++
			refused(t, "W2", b, n, want, place)
		}
	})
	if good < 300 || bad < 300 {
		t.Errorf("%d structures, %d that are none", good, bad)
	}
}

// W9: what is shown is read as the canonical structure.
func TestShownAndRead(t *testing.T) {
	look(t, 400, func(g *gen, b api.Bank, m api.Model) {
		canonical := tidy(t, b, m)
		text := shown(t, b, m)
		if n := read(t, b, text); !sameModel(n, canonical) {
			t.Fatalf("W9: %s is read as %+v, want %+v", text, n, canonical)
		}
		if s := shown(t, b, canonical); s != text {
			t.Fatalf("W9: the canonical one is shown as %s, not as %s", s, text)
		}
	})
}

// written is a text of a structure, with all that Read takes beside what Show writes; constants have no rows.
func (g *gen) written(b api.Bank, m api.Model) string {
	order := g.rng.Perm(len(b.Funs))
	// Functions of one name must come in their order.
	for i := range order {
		for j := range i {
			if b.Funs[order[i]].Name == b.Funs[order[j]].Name && order[i] < order[j] {
				order[i], order[j] = order[j], order[i]
			}
		}
	}
	text := g.white() + "(" + g.white()
	for _, fun := range order {
		f := b.Funs[fun]
		names := []string{"a", "b", "c", "true", "=", "x0", "||", "|x y|", "@1", "Bool"}
		g.rng.Shuffle(len(names), func(i, j int) { names[i], names[j] = names[j], names[i] })
		var params []string
		for i, s := range f.Args {
			params = append(params, "("+names[i]+" "+plainQuote(plainSort(b, s))+")")
		}
		text += "(define-fun " + plainQuote(f.Name) + g.white() + "(" + strings.Join(params, g.white()) + ")" + plainQuote(plainSort(b, f.Out)) + " " + g.body(b, m.Tables[fun], names) + ")" + g.white()
	}
	return text + ")" + g.white()
}

func (g *gen) white() string {
	return []string{" ", "\n", "\t \r\n", "; a comment ) |\n", " ;\r", "  "}[g.rng.Intn(6)]
}

func (g *gen) body(b api.Bank, t api.Table, names []string) string {
	text := ""
	for _, r := range t.Rows {
		var equations []string
		for i, v := range r.Args {
			sides := []string{names[i], g.spelled(b, v)}
			// A value that is a parameter's name must stand on the right.
			if g.rng.Intn(2) == 0 && !slices.Contains(names[:len(r.Args)], sides[1]) {
				slices.Reverse(sides)
			}
			equations = append(equations, "(="+g.white()+strings.Join(sides, " ")+")")
		}
		g.rng.Shuffle(len(equations), func(i, j int) { equations[i], equations[j] = equations[j], equations[i] })
		condition := equations[0]
		if len(equations) > 1 {
			condition = "(and " + strings.Join(equations, g.white()) + ")"
		}
		text += "(ite " + condition + g.white() + g.spelled(b, r.Out) + " "
	}
	return text + g.spelled(b, t.Else) + strings.Repeat(")", len(t.Rows))
}

// spelled is one of the ways in which a value may be written.
func (g *gen) spelled(b api.Bank, v api.Value) string {
	if v.Sort != api.SortReal {
		return plainSpell(b, v)
	}
	return g.constant(rational(v.R), 3)
}

func (g *gen) constant(q *big.Rat, deep int) string {
	if q.Sign() < 0 || deep > 0 && g.rng.Intn(4) == 0 {
		return "(- " + g.constant(new(big.Rat).Neg(q), deep-1) + ")"
	}
	if !q.IsInt() || deep > 0 && g.rng.Intn(4) == 0 {
		by := new(big.Rat).SetInt(q.Denom())
		if deep > 0 {
			by.Mul(by, big.NewRat(int64(1+g.rng.Intn(9)), int64(1+g.rng.Intn(9))))
		}
		upper := new(big.Rat).Mul(q, by)
		if upper.IsInt() || deep > 0 {
			return "(/ " + g.constant(upper, deep-1) + g.white() + g.constant(by, deep-1) + ")"
		}
		return "(/ " + q.Num().String() + " " + q.Denom().String() + ".0)"
	}
	return q.RatString() + []string{"", ".0", ".000"}[g.rng.Intn(3)]
}

// W8: texts that are not what Show writes; W9: what is read is shown, and read again as its Tidy.
func TestReadOfOtherTexts(t *testing.T) {
	look(t, 400, func(g *gen, b api.Bank, m api.Model) {
		for i, f := range b.Funs {
			if len(f.Args) == 0 {
				m.Tables[i].Rows = nil
			}
		}
		text := g.written(b, m)
		n := read(t, b, text)
		if !sameModel(n, m) {
			t.Fatalf("W8: %q is read as %+v, want %+v", text, n, m)
		}
		if again := read(t, b, shown(t, b, n)); !sameModel(again, tidy(t, b, n)) {
			t.Fatalf("W9: %+v, shown and read, is %+v", n, again)
		}
	})
}

// Bytes of good texts are changed: what comes then is read as the plain reader reads it.
func TestReadOfSpoiltTexts(t *testing.T) {
	wrong := 0
	look(t, 300, func(g *gen, b api.Bank, m api.Model) {
		for i, f := range b.Funs {
			if len(f.Args) == 0 {
				m.Tables[i].Rows = nil
			}
		}
		text := g.written(b, m)
		for range 20 {
			at := g.rng.Intn(len(text))
			put := []string{"", "(", ")", " ", "x", "0", "-", "(- ", "|", "true", "() ", "@1", "/"}[g.rng.Intn(13)]
			if likePlain(t, b, text[:at]+put+text[min(len(text), at+g.rng.Intn(3)):]) != api.OK {
				wrong++
			}
		}
	})
	if wrong < 1000 {
		t.Errorf("only %d texts with an error", wrong)
	}
}

// W10: a term is worth the same in the canonical structure, and whatever the functions are worth that it is not made of.
func TestWorthHangsOnItsFunctions(t *testing.T) {
	look(t, 200, func(g *gen, b api.Bank, m api.Model) {
		canonical := tidy(t, b, m)
		other := g.model(b)
		for i := range b.Terms {
			v := eval(t, b, m, i)
			if w := eval(t, b, canonical, i); v != w {
				t.Fatalf("W10: the term %d of %+v is worth %v in %+v, and %v in its Tidy", i, b, v, m, w)
			}
			reached, _ := g.Reach([]int{i})
			mixed := cloneModel(other)
			for _, u := range reached {
				if b.Terms[u].Op == api.OpApp {
					mixed.Tables[b.Terms[u].Fun] = m.Tables[b.Terms[u].Fun]
				}
			}
			if w := eval(t, b, mixed, i); v != w {
				t.Fatalf("W10: the term %d of %+v is worth %v in %+v, and %v in %+v", i, b, v, m, w, mixed)
			}
		}
	})
}

// W11: substitution.
func TestSubstitution(t *testing.T) {
	done := 0
	look(t, 300, func(g *gen, b api.Bank, m api.Model) {
		for range 10 {
			fun := g.rng.Intn(4)
			constant := g.app(fun)
			into, whole := g.pick(b, b.Funs[fun].Out), g.rng.Intn(len(b.Terms))
			made, e := g.Subst(whole, []int{constant}, []int{into})
			if e != api.OK {
				continue
			}
			turned := cloneModel(m)
			turned.Tables[fun] = table(eval(t, b, m, into))
			v, w := eval(t, g.Export(), m, made), eval(t, b, turned, whole)
			if v != w {
				t.Fatalf("W11: %d with %d for %d in %+v is worth %v, want %v", whole, into, constant, b, v, w)
			}
			if made != whole {
				done++
			}
		}
	})
	if done < 300 {
		t.Errorf("only %d terms turned into others", done)
	}
}

// swapped puts two elements of a sort in one another's place.
func swapped(v api.Value, sort, n, m int) api.Value {
	switch {
	case v.Sort != sort:
	case v.N == n:
		v.N = m
	case v.N == m:
		v.N = n
	}
	return v
}

// W12: isomorphism.
func TestIsomorphism(t *testing.T) {
	look(t, 200, func(g *gen, b api.Bank, m api.Model) {
		sort, n, k := 2+g.rng.Intn(2), g.rng.Intn(4), g.rng.Intn(6)
		turned := cloneModel(m)
		for i := range turned.Tables {
			u := &turned.Tables[i]
			u.Else = swapped(u.Else, sort, n, k)
			for j := range u.Rows {
				u.Rows[j].Out = swapped(u.Rows[j].Out, sort, n, k)
				for l := range u.Rows[j].Args {
					u.Rows[j].Args[l] = swapped(u.Rows[j].Args[l], sort, n, k)
				}
			}
		}
		for i := range b.Terms {
			v, w := eval(t, b, m, i), eval(t, b, turned, i)
			if w != swapped(v, sort, n, k) {
				t.Fatalf("W12: the term %d of %+v is worth %v in %+v, and %v where %d and %d of %d have changed places", i, b, v, m, w, n, k, sort)
			}
		}
	})
}

// W13: a Real term is worth what its linear form is.
func TestWorthOfForms(t *testing.T) {
	forms := 0
	look(t, 300, func(g *gen, b api.Bank, m api.Model) {
		bank, e := term.Load(b)
		if e != api.OK {
			t.Fatal(e)
		}
		for i, u := range b.Terms {
			if u.Sort != api.SortReal {
				continue
			}
			f, e := bank.Lin(i)
			if e != api.OK {
				t.Fatal(e)
			}
			sum := rational(f.K)
			for _, x := range f.M {
				part := rational(x.C)
				sum.Add(sum, part.Mul(part, rational(eval(t, b, m, x.V).R)))
			}
			if v := eval(t, b, m, i); v != number(sum.RatString()) {
				t.Fatalf("W13: the term %d of %+v is worth %v, its form %s", i, b, v, sum.RatString())
			}
			if len(f.M) > 1 {
				forms++
			}
		}
	})
	if forms < 50 {
		t.Errorf("only %d forms with several variables", forms)
	}
}
