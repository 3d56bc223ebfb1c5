package simplex_test

import (
	"math/rand"
	"reflect"
	"slices"
	"strconv"
	"testing"

	"arbiter/api"
	"arbiter/lin"
	"arbiter/simplex"
)

func someNumber(rng *rand.Rand) string {
	whole := strconv.Itoa(rng.Intn(7) - 3)
	if rng.Intn(5) > 0 {
		return whole
	}
	return []string{"1/2", "-1/2", "1/3", "-5/3", "7/2", "-1/6"}[rng.Intn(6)]
}

func someForm(rng *rand.Rand, n int) api.Lin {
	var monos []api.Mono
	for range rng.Intn(4) {
		if n > 0 {
			monos = append(monos, mono(rng.Intn(n), someNumber(rng)))
		}
	}
	k := "0"
	if rng.Intn(3) == 0 {
		k = someNumber(rng)
	}
	f, _ := lin.Form(monos, k)
	return f
}

func someBound(rng *rand.Rand, vars, tag int) api.Bound {
	b := api.Bound{V: rng.Intn(vars), Upper: rng.Intn(2) == 0, At: delta(someNumber(rng), "0"), Tag: tag}
	if rng.Intn(4) == 0 && b.Upper {
		b.At.B = "-1"
	} else if rng.Intn(3) == 0 && !b.Upper {
		b.At.B = "1"
	}
	return b
}

// someTableau has a few variables, rows and bounds, whether they clash or not.
func someTableau(t *testing.T, rng *rand.Rand) (*simplex.Tableau, *plain) {
	t.Helper()
	n := rng.Intn(4)
	var rows []api.Lin
	for range rng.Intn(5) {
		if len(rows) > 0 && rng.Intn(6) == 0 {
			rows = append(rows, rows[rng.Intn(len(rows))])
		} else {
			rows = append(rows, someForm(rng, n))
		}
	}
	x, p := start(t, n, rows...)
	for tag := range rng.Intn(7) {
		if p.vars() > 0 {
			say(t, x, p, someBound(rng, p.vars(), tag))
		}
	}
	return x, p
}

// session is a tableau that is told and asked at random, a twin that is told and asked the same, and what there is to know by the chapter's words.
type session struct {
	t       *testing.T
	rng     *rand.Rand
	x, twin *simplex.Tableau
	p       *plain
	tag     int
	was     bool // the last verdict, while bounds only come
	fell    bool // a verdict was false, while bounds only come
}

// alike holds an answer against the twin's.
func (s *session) alike(call string, a, b any) {
	s.t.Helper()
	if !reflect.DeepEqual(a, b) {
		s.t.Fatalf("P0.5: two tableaus that were told and asked the same answer to %s: %v, %v", call, a, b)
	}
}

func (s *session) assert() {
	if s.p.vars() == 0 {
		return
	}
	b := someBound(s.rng, s.p.vars(), s.tag)
	s.tag++
	say(s.t, s.x, s.p, b)
	s.twin.Assert(b)
}

// refused: a bound with a tag that is in force.
func (s *session) refused() {
	if len(s.p.bounds) == 0 {
		return
	}
	b := someBound(s.rng, s.p.vars(), s.p.bounds[s.rng.Intn(len(s.p.bounds))].Tag)
	if err := s.x.Assert(b); err != api.ErrTag {
		s.t.Fatalf("B3: Assert(%v) = %d", b, err)
	}
	s.twin.Assert(b)
}

func (s *session) push() {
	push(s.x, s.p)
	s.twin.Push()
}

func (s *session) pop() {
	n := s.rng.Intn(len(s.p.marks) + 1)
	pop(s.t, s.x, s.p, n)
	s.twin.Pop(n)
	s.fell = s.fell && n == 0
}

// check holds the verdict against the elimination of all variables, and looks the evidence over.
func (s *session) check() {
	s.t.Helper()
	can := func(bounds []api.Bound) bool { return possible(s.p.cons(bounds), s.p.n) }
	want := can(s.p.bounds)
	ok, shares := s.x.Check()
	okTwin, sharesTwin := s.twin.Check()
	s.alike("Check", ok, okTwin)
	s.alike("Check", shares, sharesTwin)
	if ok != want {
		s.t.Fatalf("B5: Check = %v, want %v: %v, %v", ok, want, s.p.rows, s.p.bounds)
	}
	if ok && s.fell {
		s.t.Fatal("B12: more bounds made a verdict true")
	}
	s.fell = !ok
	if ok {
		s.p.settled = true
	} else {
		s.p.refuted(s.t, shares, can)
	}
	fresh, _ := start(s.t, s.p.n, s.p.rows...)
	for _, i := range s.rng.Perm(len(s.p.bounds)) {
		fresh.Assert(s.p.bounds[i])
	}
	if again, _ := fresh.Check(); again != ok {
		s.t.Fatalf("B11: Check = %v, in a tableau of its own %v", ok, again)
	}
}

func (s *session) point() {
	s.t.Helper()
	point, err := s.x.Point()
	pointTwin, _ := s.twin.Point()
	s.alike("Point", point, pointTwin)
	if s.p.settled != (err == api.OK) || err != api.OK && (err != api.ErrState || len(point) > 0) {
		s.t.Fatalf("B6: Point = %v, %d, asked behind a Check: %v", point, err, s.p.settled)
	}
	if err == api.OK {
		s.p.within(s.t, "B7", point)
	}
}

func (s *session) equal() {
	s.t.Helper()
	if s.p.vars() == 0 {
		return
	}
	a, b := s.rng.Intn(s.p.vars()), s.rng.Intn(s.p.vars())
	q, err := s.x.Equal(a, b)
	qTwin, _ := s.twin.Equal(a, b)
	s.alike("Equal", q, qTwin)
	if !s.p.settled {
		if err != api.ErrState || !reflect.DeepEqual(q, api.Equality{}) {
			s.t.Fatalf("B6: Equal(%d, %d) = %v, %d", a, b, q, err)
		}
		return
	}
	if err != api.OK || q.Same != s.p.same(a, b) {
		s.t.Fatalf("B8: Equal(%d, %d) = %v, %d", a, b, q, err)
	}
	s.p.equality(s.t, a, b, q)
}

func (s *session) apart() {
	s.t.Helper()
	var pairs []api.Both
	some := false
	for range s.rng.Intn(6) {
		if s.p.vars() > 0 {
			pair := api.Both{A: s.rng.Intn(s.p.vars()), B: s.rng.Intn(s.p.vars())}
			if s.p.same(pair.A, pair.B) && s.rng.Intn(4) > 0 {
				continue
			}
			some = some || s.p.same(pair.A, pair.B)
			pairs = append(pairs, pair)
		}
	}
	point, err := s.x.Apart(pairs)
	pointTwin, _ := s.twin.Apart(pairs)
	s.alike("Apart", point, pointTwin)
	switch {
	case !s.p.settled:
		if err != api.ErrState || len(point) > 0 {
			s.t.Fatalf("B6: Apart(%v) = %v, %d", pairs, point, err)
		}
	case some:
		if err != api.ErrSame || len(point) > 0 {
			s.t.Fatalf("B9: Apart(%v) = %v, %d, want ErrSame", pairs, point, err)
		}
	default:
		if err != api.OK {
			s.t.Fatalf("B9: Apart(%v) = %d", pairs, err)
		}
		s.p.plainly(s.t, point, pairs)
	}
}

func TestSessions(t *testing.T) {
	rng := rand.New(rand.NewSource(1))
	verdicts := map[bool]int{}
	for range 500 {
		x, p := someTableau(t, rng)
		twin, _ := start(t, p.n, p.rows...)
		for _, b := range p.bounds {
			twin.Assert(b)
		}
		s := &session{t: t, rng: rng, x: x, twin: twin, p: p, tag: 100}
		steps := []func(){s.assert, s.assert, s.refused, s.push, s.pop, s.check, s.check, s.point, s.equal, s.equal, s.apart}
		for range 40 {
			if len(p.bounds) > 9 && len(p.marks) > 0 {
				s.pop()
			}
			if len(p.bounds) > 12 {
				break
			}
			steps[rng.Intn(len(steps))]()
		}
		s.check()
		verdicts[p.settled]++
	}
	if verdicts[true] < 50 || verdicts[false] < 50 {
		t.Errorf("of the sessions %d end well and %d do not: they show too little", verdicts[true], verdicts[false])
	}
}

// TestQuestions: what is asked ahead does not change a verdict, and what was Same stays so with more bounds.
func TestQuestions(t *testing.T) {
	rng := rand.New(rand.NewSource(2))
	for range 300 {
		x, p := someTableau(t, rng)
		if ok, _ := check(t, x, p); !ok || p.vars() == 0 {
			continue
		}
		alike := func() []bool {
			var list []bool
			for a := range p.vars() {
				for b := range p.vars() {
					list = append(list, same(t, x, p, a, b))
				}
			}
			return list
		}
		before := alike()
		if again := alike(); !slices.Equal(before, again) {
			t.Fatalf("B11: asked twice: %v, %v", before, again)
		}
		push(x, p)
		say(t, x, p, someBound(rng, p.vars(), 100))
		if ok, _ := check(t, x, p); ok {
			for i, now := range alike() {
				if before[i] && !now {
					t.Fatal("B12: what was Same is not with one more bound")
				}
			}
		}
		pop(t, x, p, 1)
		check(t, x, p)
		if again := alike(); !slices.Equal(before, again) {
			t.Fatalf("B11: what was taken back leaves something behind: %v, %v", before, again)
		}
	}
}

// TestMiddle: tableaus of some more variables, of which each verdict is settled by its evidence.
func TestMiddle(t *testing.T) {
	rng := rand.New(rand.NewSource(3))
	for range 60 {
		n := 4 + rng.Intn(9)
		var rows []api.Lin
		for range n + rng.Intn(2*n) {
			rows = append(rows, someForm(rng, n))
		}
		x, p := start(t, n, rows...)
		for tag := range 4 * n {
			if rng.Intn(4) == 0 {
				push(x, p)
			}
			say(t, x, p, someBound(rng, p.vars(), tag))
			ok, _ := check(t, x, p)
			if !ok && len(p.marks) > 0 {
				pop(t, x, p, 1+rng.Intn(len(p.marks)))
			} else if !ok {
				break
			}
		}
		if ok, _ := check(t, x, p); !ok {
			continue
		}
		var pairs []api.Both
		for range 3 * n {
			a, b := rng.Intn(p.vars()), rng.Intn(p.vars())
			if !same(t, x, p, a, b) {
				pairs = append(pairs, api.Both{A: a, B: b})
			}
		}
		apart(t, x, p, pairs...)
	}
}
