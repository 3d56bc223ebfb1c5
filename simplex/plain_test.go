package simplex_test

import (
	"slices"
	"testing"

	"arbiter/api"
	"arbiter/lin"
	"arbiter/num"
	"arbiter/simplex"
)

// plain is a tableau by the chapter's words: forms and bounds in force.
type plain struct {
	n       int
	rows    []api.Lin
	bounds  []api.Bound
	marks   []int
	settled bool
}

func (p *plain) vars() int { return p.n + len(p.rows) }

func form(k string, monos ...api.Mono) api.Lin { return api.Lin{M: monos, K: k} }
func mono(v int, c string) api.Mono            { return api.Mono{V: v, C: c} }
func delta(a, b string) api.Delta              { return api.Delta{A: a, B: b} }

// form tells the form of a variable.
func (p *plain) form(v int) api.Lin {
	if v < p.n {
		return form("0", mono(v, "1"))
	}
	return p.rows[v-p.n]
}

// less tells f - g.
func less(f, g api.Lin) api.Lin {
	minus, _ := lin.Scale(g, "-1")
	sum, _ := lin.Add(f, minus)
	return sum
}

// con tells the constraint of a bound, by the chapter's table.
func (p *plain) con(b api.Bound) api.Con {
	c := api.Con{Op: api.ConLe, F: less(p.form(b.V), form(b.At.A))}
	if !b.Upper {
		c.F = less(form(b.At.A), p.form(b.V))
	}
	if b.At.B != "0" {
		c.Op = api.ConLt
	}
	return c
}

func (p *plain) cons(bounds []api.Bound) []api.Con {
	var cons []api.Con
	for _, b := range bounds {
		cons = append(cons, p.con(b))
	}
	return cons
}

// possible tells whether constraints over n variables can hold together: one variable after the other is taken out of them.
func possible(cons []api.Con, n int) bool {
	for v := range n + 1 {
		var kept []api.Con
		for _, c := range cons {
			c, _ = lin.Tidy(c)
			if c.Op == api.ConFalse {
				return false
			}
			same := func(d api.Con) bool { return d.Op == c.Op && d.F.K == c.F.K && slices.Equal(d.F.M, c.F.M) }
			if c.Op != api.ConTrue && !slices.ContainsFunc(kept, same) {
				kept = append(kept, c)
			}
		}
		cons, _ = lin.Eliminate(kept, v)
	}
	return true
}

// shared tells the bounds of shares, and the multiples, and looks that they are shares.
func (p *plain) shared(t *testing.T, promise string, shares []api.Share) ([]api.Bound, []string) {
	t.Helper()
	var bounds []api.Bound
	var mult []string
	seen := map[int]int{}
	for _, s := range shares {
		at := slices.IndexFunc(p.bounds, func(b api.Bound) bool { return b.Tag == s.Tag })
		seen[s.Tag]++
		if sign, err := num.Cmp(s.C, "0"); at < 0 || seen[s.Tag] > 1 || err != api.OK || sign <= 0 {
			t.Fatalf("%s: %v are no shares: %v", promise, shares, s)
		}
		bounds = append(bounds, p.bounds[at])
		mult = append(mult, s.C)
	}
	return bounds, mult
}

// refuted looks that shares add up to what cannot be, and that none can be left out, as can tells.
func (p *plain) refuted(t *testing.T, shares []api.Share, can func(bounds []api.Bound) bool) {
	t.Helper()
	bounds, mult := p.shared(t, "B5", shares)
	if farkas, err := lin.Farkas(p.cons(bounds), mult); err != api.OK || !farkas {
		t.Fatalf("B5: the shares %v add up to what can be: %d", shares, err)
	}
	for i := range bounds {
		if !can(slices.Delete(slices.Clone(bounds), i, i+1)) {
			t.Fatalf("B5: of the shares %v the one of %d can be left out", shares, bounds[i].Tag)
		}
	}
}

// here tells a form over just the variables that it has, and what these are worth.
func here[T any](f api.Lin, at []T) (api.Lin, []T) {
	var some []T
	g := api.Lin{K: f.K}
	for i, m := range f.M {
		g.M = append(g.M, api.Mono{V: i, C: m.C})
		some = append(some, at[m.V])
	}
	return g, some
}

// within looks that a point is within the bounds.
func (p *plain) within(t *testing.T, promise string, point []api.Delta) {
	t.Helper()
	if len(point) != p.vars() {
		t.Fatalf("%s: a point of %d variables, want %d", promise, len(point), p.vars())
	}
	for v := range point {
		want, err := lin.DValue(here(p.form(v), point))
		if err != api.OK || want != point[v] {
			t.Fatalf("%s: the variable %d is worth %v, want %v (%d)", promise, v, point[v], want, err)
		}
	}
	for _, b := range p.bounds {
		order, err := lin.DCmp(point[b.V], b.At)
		if err != api.OK || b.Upper && order > 0 || !b.Upper && order < 0 {
			t.Fatalf("%s: the variable %d is worth %v, out of %v (%d)", promise, b.V, point[b.V], b, err)
		}
	}
}

// plainly looks that a plain point is within the bounds, and that pairs are unlike there.
func (p *plain) plainly(t *testing.T, point []string, pairs []api.Both) {
	t.Helper()
	if len(point) != p.vars() {
		t.Fatalf("B9: a plain point of %d variables, want %d", len(point), p.vars())
	}
	for v := range point {
		want, err := lin.Value(here(p.form(v), point))
		if err != api.OK || want != point[v] {
			t.Fatalf("B9: the variable %d is worth %s, want %s (%d)", v, point[v], want, err)
		}
	}
	for _, b := range p.bounds {
		c := p.con(b)
		f, at := here(c.F, point)
		if holds, err := lin.Holds(api.Con{Op: c.Op, F: f}, at); err != api.OK || !holds {
			t.Fatalf("B9: the variable %d is worth %s, out of %v (%d)", b.V, point[b.V], b, err)
		}
	}
	for _, pair := range pairs {
		if point[pair.A] == point[pair.B] {
			t.Fatalf("B9: the variables %d and %d are both worth %s", pair.A, pair.B, point[pair.A])
		}
	}
}

// atMost looks that shares add up to: the form of a, less that of b, plus a number that is not below 0, is at most 0.
func (p *plain) atMost(t *testing.T, a, b int, shares []api.Share) {
	t.Helper()
	bounds, mult := p.shared(t, "B8", shares)
	sum, err := lin.Combine(p.cons(bounds), mult)
	k := less(sum.F, less(p.form(a), p.form(b)))
	sign, errK := num.Cmp(k.K, "0")
	if err != api.OK || errK != api.OK || len(k.M) > 0 || sign < 0 {
		t.Fatalf("B8: the shares %v add up to %v, which is not that %d is at most %d", shares, sum, a, b)
	}
	if sum.Op != api.ConLe && sum.Op != api.ConLt && (sum.Op != api.ConEq || len(shares) > 0) {
		t.Fatalf("B8: the shares %v add up to a constraint of the Op %d", shares, sum.Op)
	}
}

// equality looks over an answer of Equal.
func (p *plain) equality(t *testing.T, a, b int, q api.Equality) {
	t.Helper()
	if q.Same {
		p.atMost(t, a, b, q.Up)
		p.atMost(t, b, a, q.Down)
		if len(q.Point) > 0 {
			t.Fatalf("B8: Equal(%d, %d) is Same and has the point %v", a, b, q.Point)
		}
		return
	}
	p.within(t, "B8", q.Point)
	if q.Point[a] == q.Point[b] || len(q.Up)+len(q.Down) > 0 {
		t.Fatalf("B8: Equal(%d, %d) = %v", a, b, q)
	}
}

// same tells by the chapter's words whether two variables are the same at every point.
func (p *plain) same(a, b int) bool {
	cons := p.cons(p.bounds)
	up := append(slices.Clone(cons), api.Con{Op: api.ConLt, F: less(p.form(b), p.form(a))})
	down := append(slices.Clone(cons), api.Con{Op: api.ConLt, F: less(p.form(a), p.form(b))})
	return !possible(up, p.n) && !possible(down, p.n)
}

// start is a tableau, and the same by the chapter's words.
func start(t *testing.T, n int, rows ...api.Lin) (*simplex.Tableau, *plain) {
	t.Helper()
	x, err := simplex.New(n, rows)
	if err != api.OK || x == nil {
		t.Fatalf("B2: New(%d, %v) = %d", n, rows, err)
	}
	return x, &plain{n: n, rows: rows}
}

func upper(v int, a, b string, tag int) api.Bound {
	return api.Bound{V: v, Upper: true, At: delta(a, b), Tag: tag}
}

func lower(v int, a, b string, tag int) api.Bound {
	return api.Bound{V: v, At: delta(a, b), Tag: tag}
}

// say asserts bounds that are to be taken.
func say(t *testing.T, x *simplex.Tableau, p *plain, bounds ...api.Bound) {
	t.Helper()
	for _, b := range bounds {
		if err := x.Assert(b); err != api.OK {
			t.Fatalf("B3: Assert(%v) = %d", b, err)
		}
		p.bounds = append(p.bounds, b)
		p.settled = false
	}
}

func push(x *simplex.Tableau, p *plain) {
	x.Push()
	p.marks = append(p.marks, len(p.bounds))
}

func pop(t *testing.T, x *simplex.Tableau, p *plain, n int) {
	t.Helper()
	if err := x.Pop(n); err != api.OK {
		t.Fatalf("B4: Pop(%d) = %d", n, err)
	}
	if n > 0 {
		first := len(p.marks) - n
		p.bounds = slices.Clone(p.bounds[:p.marks[first]])
		p.marks = p.marks[:first]
		p.settled = false
	}
}

// can tells, by a tableau of its own and its evidence, whether bounds can hold together.
func (p *plain) can(t *testing.T, bounds []api.Bound) bool {
	t.Helper()
	x, q := start(t, p.n, p.rows...)
	say(t, x, q, bounds...)
	ok, _ := x.Check()
	if ok {
		point, _ := x.Point()
		q.within(t, "B7", point)
	}
	return ok
}

// check asks, looks the evidence over, and tells the verdict and the tags of the shares, sorted. Whatever the verdict is, it is settled so.
func check(t *testing.T, x *simplex.Tableau, p *plain) (bool, []int) {
	t.Helper()
	ok, shares := x.Check()
	if !ok {
		p.refuted(t, shares, func(bounds []api.Bound) bool { return p.can(t, bounds) })
		var tags []int
		for _, s := range shares {
			tags = append(tags, s.Tag)
		}
		slices.Sort(tags)
		return false, tags
	}
	if len(shares) > 0 {
		t.Fatalf("B5: true, and the shares %v", shares)
	}
	p.settled = true
	point, err := x.Point()
	if err != api.OK {
		t.Fatalf("B7: Point behind Check = %d", err)
	}
	p.within(t, "B7", point)
	return true, nil
}

// same asks whether two variables are the same and looks the evidence over, which settles it.
func same(t *testing.T, x *simplex.Tableau, p *plain, a, b int) bool {
	t.Helper()
	q, err := x.Equal(a, b)
	if err != api.OK {
		t.Fatalf("B8: Equal(%d, %d) = %d", a, b, err)
	}
	p.equality(t, a, b, q)
	return q.Same
}

// apart asks for a plain point and looks it over.
func apart(t *testing.T, x *simplex.Tableau, p *plain, pairs ...api.Both) []string {
	t.Helper()
	point, err := x.Apart(pairs)
	if err != api.OK {
		t.Fatalf("B9: Apart(%v) = %d", pairs, err)
	}
	p.plainly(t, point, pairs)
	return point
}
