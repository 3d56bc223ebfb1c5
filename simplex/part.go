package simplex

import (
	"slices"

	"arbiter/api"
	"arbiter/lin"
	"arbiter/num"
	"arbiter/rat"
)

// way is how a variable that is not basic can move.
type way struct {
	v       int
	by      delta // as far as it can
	endless bool  // nothing stops it ever: by is a step on its way then
}

// parting tells a way on which a and b, which are worth the same where the tableau is, part. Else it tells nil, and why a is not above b, and why it is not below.
func (t *Tableau) parting(a, b int) (w *way, up, down []taken) {
	t.span(a, b)
	defer t.leave(t.extra())
	if w = t.lift(true); w != nil {
		return w, nil, nil
	}
	up = t.reasons(true)
	if w = t.lift(false); w != nil {
		return w, nil, nil
	}
	return nil, up, t.reasons(false)
}

// span gives the row behind all variables what a is, less what b is.
func (t *Tableau) span(a, b int) {
	sum := newSparse[rat.Rat]()
	t.spell(sum, a, one())
	t.spell(sum, b, one().Neg())
	t.enter(t.extra(), newRow(sum))
}

// reasons tells why the row behind all variables cannot rise, or fall, taken once.
func (t *Tableau) reasons(up bool) []taken {
	list := t.bars(t.extra(), up)
	for i := range list {
		list[i].times = list[i].times.Quo(t.vars[t.extra()].row.own)
	}
	return list
}

// lift tells a way on which the row behind all variables rises, or falls; nil, if there is none. What is stopped at once is made basic in the place of what stops it: since nothing moves ahead of the end, the point stays within the bounds.
func (t *Tableau) lift(up bool) *way {
	for steps := 0; ; steps++ {
		least := steps >= t.patience()
		j := t.choose(t.extra(), up, least)
		if j == none {
			return nil
		}
		w, stop := t.room(j, up == (t.vars[t.extra()].row.of[j].Sign() > 0), least)
		if stop == none {
			return w
		}
		t.pivot(stop, j)
	}
}

// room tells how far a variable that is not basic can rise, or fall, or else a basic one that does not let it.
func (t *Tableau) room(j int, up, least bool) (*way, int) {
	w, stop := &way{v: j, endless: true}, choice{v: none}
	w.narrow(*t.vars[j].side(up), t.vars[j].at, one())
	for user := range t.vars[j].users {
		x := &t.vars[user]
		c := x.row.share(j)
		upward := up == (c.Sign() > 0)
		if !x.held(upward) {
			w.narrow(*x.side(upward), x.at, c)
		} else if next := (choice{user, size(c), len(x.row.of)}); next.ahead(stop, least) {
			stop = next
		}
	}
	if w.endless {
		w.by = delta{a: one()}
	}
	if !up {
		w.by = w.by.Mul(one().Neg())
	}
	return w, stop.v
}

// narrow has a way end where a variable that moves c times as fast comes to its bound, if it has one.
func (w *way) narrow(bound *limit, at delta, c rat.Rat) {
	if bound == nil {
		return
	}
	if room := distance(bound.at, at).Mul(one().Quo(size(c))); w.endless || room.Cmp(w.by) < 0 {
		w.by = room
	}
	w.endless = false
}

// spread tells a plain point within the bounds at which the variables of each pair are unlike, and whether there is one. The tableau itself is where it was afterwards.
func (t *Tableau) spread(pairs []api.Both) ([]string, bool) {
	woken := t.wakeAll(pairs)
	mates := byVariable(pairs)
	all := newSparse[delta]()
	ok, parted := true, uint64(0)
	for _, pair := range pairs {
		if t.gap(pair.A, pair.B).Sign() != 0 {
			continue
		}
		w, _, _ := t.parting(pair.A, pair.B)
		if w == nil {
			ok = false
			break
		}
		parted++
		moves := t.moves(w.v, w.stride())
		moves.scale(t.pace(parted, w.endless, moves, mates))
		t.shift(moves)
		all.addTimes(moves, one())
	}
	var point []string
	if ok {
		point = t.plain(t.grain(pairs))
	}
	all.scale(one().Neg())
	t.shift(all)
	for _, v := range woken {
		t.sleep(v)
	}
	return point, ok
}

// wakeAll wakes the variables of pairs, and tells which ones slept.
func (t *Tableau) wakeAll(pairs []api.Both) []int {
	var woken []int
	for _, pair := range pairs {
		for _, v := range [...]int{pair.A, pair.B} {
			if !t.vars[v].awake {
				t.wake(v)
				woken = append(woken, v)
			}
		}
	}
	return woken
}

// byVariable tells the other ones of a variable's pairs.
func byVariable(pairs []api.Both) map[int][]int {
	mates := map[int][]int{}
	for _, pair := range pairs {
		mates[pair.A] = append(mates[pair.A], pair.B)
		mates[pair.B] = append(mates[pair.B], pair.A)
	}
	return mates
}

// stride tells a step on a way that leaves room on both sides of where it leads, for other steps: else there would soon be room for tiny ones alone. It is short to write, so that the numbers do not grow with each step.
func (w *way) stride() delta {
	switch {
	case w.endless:
		return w.by
	case w.by.a.Sign() != 0:
		return delta{a: middle(w.by.a)}
	}
	return delta{b: middle(w.by.b)}
}

// middle tells a number in the middle third of those between 0 and q, which is not 0.
func middle(q rat.Rat) rat.Rat {
	low, high := q.Quo(whole(3)), q.Mul(rat.Of(false, rat.Word(2), rat.Word(3)))
	if q.Sign() < 0 {
		low, high = high, low
	}
	text, _ := num.Simplest(low.Text(), high.Text())
	between, _ := rat.Parse(text)
	return between
}

// pace tells how often to take moves, or how much of them, so that no pair meets that is apart. It is another number each time, and sums of these numbers are mostly unlike: so variables part too that are in no pair, and that somebody may be about to ask for.
func (t *Tableau) pace(first uint64, endless bool, moves sparse[delta], mates map[int][]int) rat.Rat {
	var meet []rat.Rat
	for a, by := range moves.of {
		for _, b := range mates[a] {
			if when, ok := t.gap(a, b).root(by.Sub(moves.of[b])); ok {
				meet = append(meet, when)
			}
		}
	}
	if endless {
		return nextBut(meet, first, cube)
	}
	return nextBut(meet, first, func(k uint64) rat.Rat { return one().Quo(whole(k)) })
}

func cube(k uint64) rat.Rat {
	return rat.Product(whole(k), whole(k), whole(k))
}

// nextBut tells the first of endlessly many numbers, told by their places, that is not among some, from one place on.
func nextBut(some []rat.Rat, first uint64, at func(k uint64) rat.Rat) rat.Rat {
	slices.SortFunc(some, rat.Rat.Cmp)
	for k := first; ; k++ {
		number := at(k)
		if _, found := slices.BinarySearchFunc(some, number, rat.Rat.Cmp); !found {
			return number
		}
	}
}

// grain tells what the infinitely small part can be taken for, so that the bounds hold and no pair meets that is apart.
func (t *Tableau) grain(pairs []api.Both) rat.Rat {
	var meet []rat.Rat
	for _, pair := range pairs {
		gap := t.gap(pair.A, pair.B)
		if gap.b.Sign() != 0 {
			meet = append(meet, gap.a.Quo(gap.b).Neg())
		}
	}
	most := t.coarsest()
	return nextBut(meet, 1, func(k uint64) rat.Rat { return most.Quo(whole(k)) })
}

// coarsest tells the greatest number that the infinitely small part can be taken for, so that the bounds hold.
func (t *Tableau) coarsest() rat.Rat {
	var within []api.Pair
	for _, s := range t.said {
		low, high := s.limit.at, t.vars[s.v].at
		if s.upper {
			low, high = high, low
		}
		if low.b.Cmp(high.b) > 0 {
			within = append(within, api.Pair{Lo: low.tell(), Hi: high.tell()})
		}
	}
	text, _ := lin.Pick(within)
	most, _ := rat.Parse(text)
	return most
}

// plain tells what each variable is worth, if the infinitely small part is taken for a number.
func (t *Tableau) plain(grain rat.Rat) []string {
	point := make([]string, t.extra())
	for v := range point {
		point[v] = t.worth(v).plain(grain).Text()
	}
	return point
}
