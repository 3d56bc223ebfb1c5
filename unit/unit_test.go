package unit_test

import (
	"math/rand"
	"slices"
	"testing"

	"arbiter/unit"
)

func TestOnce(t *testing.T) {
	in := []int{3, -1, 3, 2, -3, -1, 1}
	held := slices.Clone(in)
	if got := unit.Once(in); !slices.Equal(got, []int{1, -1, 2, 3, -3}) || !slices.Equal(in, held) {
		t.Errorf("Once: %v of %v", got, in)
	}
	if got := unit.Once(nil); len(got) > 0 {
		t.Errorf("Once: %v", got)
	}
}

// hold holds a literal and goes on from it.
func hold(s *unit.State, lit int) int {
	s.Open()
	s.Hold(lit, unit.None)
	return s.Run()
}

func TestLevels(t *testing.T) {
	s := unit.New(5)
	for _, clause := range [][]int{{-1, 2}, {-2, -3, 4}, {-4, 5}, {-4, -5}} {
		s.Put(clause)
	}
	if hold(s, 1) != unit.None || !slices.Equal(s.Trail(), []int{1, 2}) || s.Reason(2) != 0 || s.Reason(1) != unit.None {
		t.Fatalf("on level 1 the trail is %v", s.Trail())
	}
	if clash := hold(s, 3); clash != 2 && clash != 3 {
		t.Fatalf("on level 2 nothing clashes: %v", s.Trail())
	}
	if s.LevelOf(-4) != 2 || s.PlaceOf(4) != 3 || s.Reason(4) != 1 || s.Level() != 2 || s.Start(2) != 2 {
		t.Errorf("4 is on level %d, place %d, by %d", s.LevelOf(4), s.PlaceOf(4), s.Reason(4))
	}
	s.Back(1)
	if s.Level() != 1 || !slices.Equal(s.Trail(), []int{1, 2}) || s.Value(3) != 0 || s.Value(-4) != 0 || s.Value(-2) != -1 {
		t.Errorf("back on level 1 the trail is %v", s.Trail())
	}
	if s.Hold(-3, unit.None); s.Run() != unit.None || !slices.Equal(s.Trail(), []int{1, 2, -3}) {
		t.Errorf("the trail is %v", s.Trail())
	}
	s.Back(0)
	if s.Level() != 0 || len(s.Trail()) > 0 || s.Value(1) != 0 {
		t.Errorf("back on level 0 the trail is %v", s.Trail())
	}
}

// A clause is put with the literals first that are false last.
func TestPut(t *testing.T) {
	s := unit.New(6)
	for v := 1; v <= 4; v++ {
		hold(s, -v)
	}
	for _, x := range []struct{ clause, first []int }{
		{[]int{1, 2, 3, 4}, []int{4, 3}},
		{[]int{3, 1, 2}, []int{3, 2}},
		{[]int{1, 5, 2}, []int{5, 2}},
		{[]int{1, 3, -4, 2, 6}, []int{-4, 6}},
		{[]int{2}, []int{2}},
		{nil, nil},
	} {
		n := s.Put(slices.Clone(x.clause))
		if got := s.Lits(n); len(got) != len(x.clause) || !slices.Equal(got[:min(2, len(got))], x.first) {
			t.Errorf("put %v stands as %v", x.clause, got)
		}
	}
}

func TestMuteAndUpto(t *testing.T) {
	s := unit.New(3)
	s.Put([]int{-1, 2})
	s.Put([]int{-1, 3})
	s.Put([]int{-2, -3})
	run := func() int {
		clash := hold(s, 1)
		s.Back(0)
		return clash
	}
	if run() == unit.None {
		t.Error("nothing clashes")
	}
	s.Mute(1)
	if s.Plays(1) || run() != unit.None {
		t.Error("a mute clause plays a part")
	}
	s.Wake(1)
	s.Upto(2)
	if !s.Plays(1) || s.Plays(2) || run() != unit.None {
		t.Error("a clause from 2 on plays a part")
	}
	s.Upto(3)
	if run() == unit.None {
		t.Error("nothing clashes any more")
	}
	s.Mute(0)
	s.Sweep()
	if run() != unit.None || len(s.Lits(0)) > 0 || len(s.Lits(1)) != 2 {
		t.Error("a clause that was swept away plays a part, or the wrong one was")
	}
}

// Levels up and down by chance.
func TestByChance(t *testing.T) {
	for seed := range int64(300) {
		rng := rand.New(rand.NewSource(seed))
		vars := 3 + rng.Intn(20)
		s := unit.New(vars)
		count := 0
		for range 3 * vars {
			var clause []int
			for range 2 + rng.Intn(4) {
				clause = append(clause, (1+rng.Intn(vars))*(1-2*rng.Intn(2)))
			}
			if clause = unit.Once(clause); len(clause) > 1 {
				s.Put(clause)
				count++
			}
		}
		for range 60 {
			v := 1 + rng.Intn(vars)
			if s.Value(v) != 0 {
				continue
			}
			clash := hold(s, v*(1-2*rng.Intn(2)))
			if clash != unit.None {
				if slices.ContainsFunc(s.Lits(clash), func(l int) bool { return s.Value(l) >= 0 }) {
					t.Fatalf("%v does not clash with %v", s.Lits(clash), s.Trail())
				}
				s.Back(rng.Intn(s.Level()))
			}
			lookOver(t, s, count)
		}
	}
}

// lookOver looks that what is held is held by its reasons, and that no clause has all its literals but one false, and that one not held.
func lookOver(t *testing.T, s *unit.State, count int) {
	t.Helper()
	for place, lit := range s.Trail() {
		if s.Value(lit) != 1 || s.Value(-lit) != -1 || s.PlaceOf(lit) != place {
			t.Fatalf("%d is not held as the trail says", lit)
		}
		if n := s.Reason(lit); n != unit.None && slices.ContainsFunc(s.Lits(n), func(l int) bool { return l != lit && (s.Value(l) >= 0 || s.PlaceOf(l) > place) }) {
			t.Fatalf("%d is not held by %v", lit, s.Lits(n))
		}
	}
	for n := range count {
		lits := s.Lits(n)
		free := slices.DeleteFunc(slices.Clone(lits), func(l int) bool { return s.Value(l) < 0 })
		if len(free) == 0 || len(free) == 1 && s.Value(free[0]) == 0 {
			t.Fatalf("%v is not gone on from, at %v", lits, s.Trail())
		}
	}
}
