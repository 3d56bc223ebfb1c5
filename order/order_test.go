package order_test

import (
	"math"
	"math/rand"
	"slices"
	"testing"

	"arbiter/api"
	"arbiter/order"
)

func newOrder(t *testing.T, n int) *order.Order {
	t.Helper()
	o, e := order.New(n)
	if o == nil || e != api.OK {
		t.Fatalf("O2: New(%d): %v, %d", n, o, e)
	}
	return o
}

func score(t *testing.T, o *order.Order, v int) uint32 {
	t.Helper()
	s, e := o.Score(v)
	if e != api.OK {
		t.Fatalf("O6: Score(%d): %d", v, e)
	}
	return s
}

// same looks that an order tells all that the plain one does.
func same(t *testing.T, o *order.Order, p *plain) {
	t.Helper()
	if got, want := o.Waiting(), p.waiting(); !slices.Equal(got, want) {
		t.Fatalf("O5: Waiting: %v, want %v", got, want)
	}
	if got, want := o.Rise(), math.Float32bits(p.rise); got != want {
		t.Fatalf("O6: Rise: %08X, want %08X", got, want)
	}
	for i := range p.activity {
		v := i + 1
		if got, want := score(t, o, v), p.score(v); got != want {
			t.Fatalf("O3, O6: Score(%d): %08X, want %08X", v, got, want)
		}
		if got, e := o.Has(v); got != p.waits[i] || e != api.OK {
			t.Fatalf("O5: Has(%d): %v, %d, want %v", v, got, e, p.waits[i])
		}
		if got, e := o.Phase(v); got != p.phase[i] || e != api.OK {
			t.Fatalf("O7: Phase(%d): %v, %d, want %v", v, got, e, p.phase[i])
		}
	}
}

func TestNew(t *testing.T) {
	for n := range 12 {
		same(t, newOrder(t, n), newPlain(n))
	}
	for _, x := range []struct {
		n int
		e api.Errno
	}{{-1, api.ErrVar}, {math.MinInt, api.ErrVar}, {1000001, api.ErrLimit}, {math.MaxInt, api.ErrLimit}} {
		if o, e := order.New(x.n); o != nil || e != x.e {
			t.Errorf("O2: New(%d): %v, %d, want %d", x.n, o, e, x.e)
		}
	}
}

func TestExamples(t *testing.T) {
	o := newOrder(t, 3)
	for i, want := range []int{1, 2, 3, 0, 0} {
		if got := o.Take(); got != want {
			t.Errorf("O5: Take %d: %d, want %d", i, got, want)
		}
	}
	o = newOrder(t, 3)
	if o.Bump(3) != api.OK || o.Bump(2) != api.OK || !slices.Equal(o.Waiting(), []int{2, 3, 1}) {
		t.Errorf("O5: Waiting: %v", o.Waiting())
	}
	o = newOrder(t, 3)
	o.Bump(3)
	o.Decay()
	o.Bump(2)
	if !slices.Equal(o.Waiting(), []int{2, 3, 1}) || score(t, o, 3) != 0x3F800000 || score(t, o, 2) != 0x3F86BCA2 || o.Rise() != 0x3F86BCA2 {
		t.Errorf("O4: %v, %08X, %08X, %08X", o.Waiting(), score(t, o, 3), score(t, o, 2), o.Rise())
	}
	o = newOrder(t, 2)
	if o.Take() != 1 || o.Bump(1) != api.OK || !slices.Equal(o.Waiting(), []int{2}) {
		t.Errorf("O5: Waiting: %v", o.Waiting())
	}
	if has, e := o.Has(1); has || e != api.OK || o.Put(1) != api.OK || !slices.Equal(o.Waiting(), []int{1, 2}) {
		t.Errorf("O5: Has(1): %v, %d; Waiting: %v", has, e, o.Waiting())
	}
	o = newOrder(t, 1)
	for range 897 {
		o.Decay()
	}
	if o.Rise() != 0x60A66730 {
		t.Errorf("O4: behind 897 times Decay the rise is %08X", o.Rise())
	}
	if o.Decay(); o.Rise() != 0x3F813F00 {
		t.Errorf("O4: behind 898 times Decay the rise is %08X", o.Rise())
	}
	if o := newOrder(t, 0); o.Take() != 0 || len(o.Waiting()) != 0 {
		t.Error("O5: an order of no variables has one that waits")
	}
}

// What is refused changes nothing.
func TestErrors(t *testing.T) {
	for _, n := range []int{0, 1, 2, 7} {
		o, p := newOrder(t, n), newPlain(n)
		if n > 1 {
			o.Bump(2)
			p.bump(2)
			o.Save(1, true)
			p.phase[0] = true
			o.Take()
			p.take()
		}
		for _, v := range []int{0, -1, n + 1, n + 2, -n, math.MinInt, math.MaxInt, 1 << 32} {
			if e := o.Bump(v); e != api.ErrVar {
				t.Errorf("O3: Bump(%d) of %d: %d", v, n, e)
			}
			if s, e := o.Score(v); s != 0 || e != api.ErrVar {
				t.Errorf("O6: Score(%d) of %d: %d, %d", v, n, s, e)
			}
			if has, e := o.Has(v); has || e != api.ErrVar {
				t.Errorf("O5: Has(%d) of %d: %v, %d", v, n, has, e)
			}
			if e := o.Put(v); e != api.ErrVar {
				t.Errorf("O5: Put(%d) of %d: %d", v, n, e)
			}
			if e := o.Save(v, true); e != api.ErrVar {
				t.Errorf("O7: Save(%d) of %d: %d", v, n, e)
			}
			if up, e := o.Phase(v); up || e != api.ErrVar {
				t.Errorf("O7: Phase(%d) of %d: %v, %d", v, n, up, e)
			}
		}
		same(t, o, p)
	}
}

// act does one thing to both orders.
func act(t *testing.T, rng *rand.Rand, o *order.Order, p *plain) {
	t.Helper()
	v := 1 + rng.Intn(len(p.activity))
	switch rng.Intn(8) {
	case 0, 1, 2:
		if e := o.Bump(v); e != api.OK {
			t.Fatalf("O3: Bump(%d): %d", v, e)
		}
		p.bump(v)
	case 3:
		for range rng.Intn(200) {
			o.Decay()
			p.decay()
		}
	case 4, 5:
		if got, want := o.Take(), p.take(); got != want {
			t.Fatalf("O5: Take: %d, want %d", got, want)
		}
	case 6:
		if e := o.Put(v); e != api.OK {
			t.Fatalf("O5: Put(%d): %d", v, e)
		}
		p.waits[v-1] = true
	case 7:
		up := rng.Intn(2) == 1
		if e := o.Save(v, up); e != api.OK {
			t.Fatalf("O7: Save(%d): %d", v, e)
		}
		p.phase[v-1] = up
	}
}

// Many things by chance, so that all is shrunk again and again: an order and one beside it that is left alone.
func TestAgainstPlain(t *testing.T) {
	for seed := range int64(40) {
		rng := rand.New(rand.NewSource(seed))
		n := 1 + rng.Intn(12)
		o, p := newOrder(t, n), newPlain(n)
		other := newOrder(t, n)
		for range 150 {
			act(t, rng, o, p)
			same(t, o, p)
		}
		same(t, other, newPlain(n))
	}
}

// A bump goes above the top, at a rise that is just below it.
func TestBumpShrinks(t *testing.T) {
	o, p := newOrder(t, 3), newPlain(3)
	for range 897 {
		o.Decay()
		p.decay()
	}
	o.Bump(1)
	p.bump(1)
	o.Bump(3)
	p.bump(3)
	same(t, o, p)
	o.Take()
	p.take()
	o.Bump(1) // it does not wait, and all are shrunk by it
	p.bump(1)
	if p.rise > 1 {
		t.Fatal("the test does not get above the top")
	}
	same(t, o, p)
}

// Just at the top nothing is shrunk yet: the rises behind so many times Decay add up to it.
func TestJustTheTop(t *testing.T) {
	o, p := newOrder(t, 2), newPlain(2)
	decays := 0
	for _, at := range []int{525, 591, 662, 722, 781, 850, 896} {
		for ; decays < at; decays++ {
			o.Decay()
			p.decay()
		}
		o.Bump(2)
		p.bump(2)
		same(t, o, p)
	}
	if score(t, o, 2) != 0x60AD78EC {
		t.Fatalf("O3: Score at the top: %08X", score(t, o, 2))
	}
	o.Bump(2)
	p.bump(2)
	same(t, o, p)
	if p.rise > 2 {
		t.Error("the test does not get above the top")
	}
}

// Activities that were apart are the same once both have become 0: then the least comes first. On the way there one is no normal float32.
func TestShrunkToNothing(t *testing.T) {
	o, p := newOrder(t, 4), newPlain(4)
	for _, v := range []int{4, 3, 3, 4, 4, 2} {
		o.Bump(v)
		p.bump(v)
	}
	if !slices.Equal(o.Waiting(), []int{4, 3, 2, 1}) {
		t.Fatalf("O5: Waiting: %v", o.Waiting())
	}
	tiny := false
	for range 3 * 900 {
		o.Decay()
		p.decay()
		tiny = tiny || p.score(2) > 0 && p.score(2) < 1<<23
	}
	same(t, o, p)
	if !tiny || score(t, o, 4) != 0 {
		t.Fatal("the test does not get down to 0 by gradual underflow")
	}
	for want := 1; want <= 4; want++ {
		if got := o.Take(); got != want {
			t.Errorf("O5: Take: %d, want %d", got, want)
		}
	}
}

// At a rise that is too small beside it an activity stays what it is, and it is the even one of two that are equally near.
func TestRounding(t *testing.T) {
	o, p := newOrder(t, 2), newPlain(2)
	for range 1<<12 + 3 {
		o.Bump(1)
		p.bump(1)
	}
	for range 300 {
		o.Decay()
		p.decay()
		o.Bump(2)
		p.bump(2)
		o.Bump(1)
		p.bump(1)
		same(t, o, p)
	}
	o = newOrder(t, 1)
	for range 1<<24 + 5 {
		o.Bump(1)
	}
	if got, want := score(t, o, 1), math.Float32bits(1<<24); got != want {
		t.Errorf("O3: Score: %08X, want %08X", got, want)
	}
}

// What Waiting answers is new memory, and nothing is taken.
func TestWaitingIsNew(t *testing.T) {
	o, p := newOrder(t, 9), newPlain(9)
	for range 3 {
		o.Take()
		p.take()
	}
	for range 2 {
		list := o.Waiting()
		list = list[:cap(list)]
		for i := range list {
			list[i] = -5
		}
		same(t, o, p)
	}
	o.Put(1)
	p.waits[0] = true
	same(t, o, p)
}

func TestMostVariables(t *testing.T) {
	o := newOrder(t, api.MaxVars)
	if api.MaxVars != 1000000 || api.ErrVar != 70 || api.ErrLimit != 46 {
		t.Error("P0.8: a number of api is another")
	}
	o.Bump(api.MaxVars)
	for _, want := range []int{api.MaxVars, 1, 2} {
		if got := o.Take(); got != want {
			t.Errorf("O5: Take: %d, want %d", got, want)
		}
	}
	for range 1000 {
		o.Decay()
	}
	o.Put(2)
	list := o.Waiting()
	if len(list) != api.MaxVars-2 || list[0] != 2 || !slices.IsSorted(list) {
		t.Errorf("O5: %d wait, first %v", len(list), list[:3])
	}
}

// plainLuby goes by O8's words.
func plainLuby(i int) int {
	k := 1
	for ; 1<<k-1 < i; k++ {
	}
	if 1<<k-1 == i {
		return 1 << (k - 1)
	}
	return plainLuby(i - (1<<(k-1) - 1))
}

func TestLuby(t *testing.T) {
	for i, want := range []int{1, 1, 2, 1, 1, 2, 4, 1, 1, 2, 1, 1, 2, 4, 8, 1} {
		if got, e := order.Luby(i + 1); got != want || e != api.OK {
			t.Errorf("O8: Luby(%d): %d, %d, want %d", i+1, got, e, want)
		}
	}
	check := func(i int) {
		if got, e := order.Luby(i); got != plainLuby(i) || e != api.OK {
			t.Errorf("O8: Luby(%d): %d, %d, want %d", i, got, e, plainLuby(i))
		}
	}
	for i := 1; i < 5000; i++ {
		check(i)
	}
	for k := 13; k < 62; k++ {
		for off := -3; off <= 3; off++ {
			check(1<<k + off)
		}
	}
	for _, x := range []struct{ i, want int }{{math.MaxInt, 1 << 62}, {math.MaxInt - 1, 1 << 61}, {1 << 62, 1}, {1<<62 - 1, 1 << 61}, {1<<62 + 1, 1}, {1<<62 + 2, 2}} {
		if got, e := order.Luby(x.i); got != x.want || e != api.OK {
			t.Errorf("O8: Luby(%d): %d, %d, want %d", x.i, got, e, x.want)
		}
	}
	for _, i := range []int{0, -1, math.MinInt} {
		if got, e := order.Luby(i); got != 0 || e != api.ErrVar {
			t.Errorf("O8: Luby(%d): %d, %d", i, got, e)
		}
	}
}
