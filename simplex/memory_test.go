package simplex_test

import (
	"math/rand"
	"reflect"
	"slices"
	"testing"

	"arbiter/api"
	"arbiter/simplex"
)

// roomy is a list with spare room, and something in it.
func roomy[T any](list []T, more T) []T {
	return append(slices.Grow(slices.Clone(list), 2), more, more)[:len(list)]
}

func roomyRows(rows []api.Lin) []api.Lin {
	out := roomy(rows, form("77"))
	for i := range out {
		out[i].M = roomy(out[i].M, mono(77, "77"))
	}
	return out
}

// wholeRows tells all of the rows, up to the end of their spare room.
func wholeRows(rows []api.Lin) []api.Lin {
	out := slices.Clone(rows[:cap(rows)])
	for i := range out {
		out[i].M = slices.Clone(out[i].M[:cap(out[i].M)])
	}
	return out
}

func spoil[T any](list []T, with T) {
	for i := range list[:cap(list)] {
		list[:cap(list)][i] = with
	}
}

// TestHandedIn: what is handed in is neither changed nor kept.
func TestHandedIn(t *testing.T) {
	rng := rand.New(rand.NewSource(5))
	for range 300 {
		_, p := someTableau(t, rng)
		rows := roomyRows(p.rows)
		before := wholeRows(rows)
		x, err := simplex.New(p.n, rows)
		if err != api.OK {
			t.Fatalf("B2: New = %d", err)
		}
		if !reflect.DeepEqual(before, wholeRows(rows)) {
			t.Fatal("B1: New changes what is handed in")
		}
		for i := range rows[:cap(rows)] {
			spoil(rows[:cap(rows)][i].M, mono(0, "99"))
		}
		spoil(rows, form("99"))
		for _, b := range p.bounds {
			x.Assert(b)
		}
		if ok, _ := check(t, x, p); !ok || p.vars() == 0 {
			continue
		}
		var pairs []api.Both
		for range 4 {
			if a, b := rng.Intn(p.vars()), rng.Intn(p.vars()); !p.same(a, b) {
				pairs = append(pairs, api.Both{A: a, B: b})
			}
		}
		pairs = roomy(pairs, api.Both{A: 77, B: 77})
		was := slices.Clone(pairs[:cap(pairs)])
		apart(t, x, p, pairs...)
		if !slices.Equal(was, pairs[:cap(pairs)]) {
			t.Fatal("B1: Apart changes what is handed in")
		}
	}
}

// TestHandedOut: an answer is new memory: whatever becomes of it, later answers are as they would be.
func TestHandedOut(t *testing.T) {
	rng := rand.New(rand.NewSource(6))
	for range 300 {
		x, p := someTableau(t, rng)
		ok, shares := x.Check()
		spoil(shares, api.Share{Tag: -1, C: "bad"})
		if again, _ := check(t, x, p); again != ok {
			t.Fatal("B1: a verdict changes with what becomes of an answer")
		}
		if !ok || p.vars() == 0 {
			continue
		}
		point, _ := x.Point()
		spoil(point, delta("bad", "bad"))
		check(t, x, p)
		a, b := rng.Intn(p.vars()), rng.Intn(p.vars())
		q, _ := x.Equal(a, b)
		spoil(q.Up, api.Share{Tag: -1, C: "bad"})
		for _, s := range q.Down {
			if s.Tag == -1 {
				t.Fatal("B1: Up and Down share memory")
			}
		}
		spoil(q.Down, api.Share{Tag: -1, C: "bad"})
		spoil(q.Point, delta("bad", "bad"))
		if same(t, x, p, a, b) != q.Same {
			t.Fatal("B1: an answer of Equal changes with what becomes of another")
		}
		plain, _ := x.Apart(nil)
		spoil(plain, "bad")
		apart(t, x, p)
		check(t, x, p)
	}
}
