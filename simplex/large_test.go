package simplex_test

import (
	"math/rand"
	"reflect"
	"slices"
	"strconv"
	"testing"

	"arbiter/api"
	"arbiter/simplex"
)

// TestLimit: as many variables as there may be, and one more.
func TestLimit(t *testing.T) {
	for _, c := range []struct {
		n, rows int
		err     api.Errno
	}{
		{api.MaxVars, 0, api.OK}, {api.MaxVars + 1, 0, api.ErrRow},
		{api.MaxVars - 1, 1, api.OK}, {api.MaxVars, 1, api.ErrRow},
		{0, api.MaxVars, api.OK}, {0, api.MaxVars + 1, api.ErrRow},
		{1, api.MaxVars - 1, api.OK}, {1, api.MaxVars, api.ErrRow},
	} {
		rows := make([]api.Lin, c.rows)
		for i := range rows {
			rows[i] = form("2")
			if c.n > 0 {
				rows[i].M = []api.Mono{mono(0, "1")}
			}
		}
		x, err := simplex.New(c.n, rows)
		if err != c.err || (x == nil) != (err != api.OK) {
			t.Errorf("Limits: New(%d, %d rows) = %d, want %d", c.n, c.rows, err, c.err)
		}
		if err != api.OK {
			continue
		}
		last := c.n + c.rows - 1
		p := &plain{n: c.n, rows: rows}
		say(t, x, p, lower(last, "2", "0", 1), upper(0, "2", "0", 2))
		if ok, _ := x.Check(); !ok {
			t.Errorf("B5: %d variables and %d rows clash", c.n, c.rows)
		}
		if point, err := x.Point(); err != api.OK || len(point) != api.MaxVars {
			t.Errorf("B7: a point of %d variables: %d", len(point), err)
		}
		if q, err := x.Equal(0, last); err != api.OK || q.Same != (c.n == 0) {
			t.Errorf("B8: Equal(0, %d) = %v, %d", last, q.Same, err)
		}
	}
}

// TestWide: a bound on each side of each of very many variables.
func TestWide(t *testing.T) {
	const n = 30000
	x, p := start(t, n)
	for v := range n {
		say(t, x, p, lower(v, strconv.Itoa(v), "1", 2*v), upper(v, strconv.Itoa(v+1), "0", 2*v+1))
	}
	check(t, x, p)
	apart(t, x, p, api.Both{A: 0, B: 1}, api.Both{A: n - 1, B: n - 2})
	if same(t, x, p, 3, 4) {
		t.Error("B8: two of many variables are the same")
	}
	push(x, p)
	say(t, x, p, upper(n/2, strconv.Itoa(n/2), "0", -1))
	if ok, tags := check(t, x, p); ok || !slices.Equal(tags, []int{-1, n}) {
		t.Errorf("B5: one variable of many: %v, %v", ok, tags)
	}
}

// chain: x0 <= x1 <= .. and the row from the last back to the first.
func chain(t *testing.T, n int) (*simplex.Tableau, *plain) {
	t.Helper()
	var rows []api.Lin
	for i := range n - 1 {
		rows = append(rows, form("0", mono(i, "1"), mono(i+1, "-1")))
	}
	rows = append(rows, form("0", mono(0, "-1"), mono(n-1, "1")))
	x, p := start(t, n, rows...)
	for i := range n {
		say(t, x, p, upper(n+i, "0", "0", i))
	}
	return x, p
}

func TestCircle(t *testing.T) {
	const n = 120
	x, p := chain(t, n)
	if ok, _ := check(t, x, p); !ok {
		t.Fatal("B5: a circle clashes")
	}
	for i := 1; i < n; i += 17 {
		if !same(t, x, p, 0, i) || !same(t, x, p, i, i-1) {
			t.Errorf("B8: the variable %d of the circle", i)
		}
	}
	if _, err := x.Apart([]api.Both{{A: 3, B: n - 3}}); err != api.ErrSame {
		t.Errorf("B9: two of the circle: %d", err)
	}
	push(x, p)
	say(t, x, p, upper(n+50, "0", "-1", n))
	if ok, tags := check(t, x, p); ok || len(tags) != n || slices.Contains(tags, 50) {
		t.Errorf("B5: a strict one in the circle: %v, %v", ok, tags)
	}
	pop(t, x, p, 1)
	if ok, _ := check(t, x, p); !ok {
		t.Error("B11: the circle without the strict one")
	}
}

func TestLongCircle(t *testing.T) {
	const n = 1000
	x, p := chain(t, n)
	if ok, _ := check(t, x, p); !ok {
		t.Fatal("B5: a circle clashes")
	}
	if !same(t, x, p, 0, n/2) || !same(t, x, p, n-1, 7) {
		t.Error("B8: two of a long circle")
	}
	say(t, x, p, upper(n+50, "0", "-1", n))
	ok, shares := x.Check()
	if ok || len(shares) != n {
		t.Errorf("B5: a strict one in a long circle: %v, %d shares", ok, len(shares))
	}
}

// TestManyApart: variables in a small box, all pairs of them.
func TestManyApart(t *testing.T) {
	const n = 150
	var rows []api.Lin
	for i := range n - 1 {
		rows = append(rows, form("1/2", mono(i, "1"), mono(i+1, "1")))
	}
	x, p := start(t, n, rows...)
	var pairs []api.Both
	for v := range p.vars() {
		say(t, x, p, lower(v, "0", "1", 2*v), upper(v, "1", "-1", 2*v+1))
		for w := range v {
			pairs = append(pairs, api.Both{A: w, B: v})
		}
	}
	check(t, x, p)
	before, _ := x.Point()
	apart(t, x, p, pairs...)
	same(t, x, p, 0, 1)
	if after, _ := x.Point(); !slices.Equal(before, after) {
		t.Error("questions move the point: its numbers can grow from call to call")
	}
}

// TestSquare: numbers from 0 on in a square, each line and each column of which adds up to 1. Most of them are 0 at first; the numbers must not grow beyond measure while pair after pair parts.
func TestSquare(t *testing.T) {
	const k = 12
	var rows []api.Lin
	for i := range k {
		line, column := form("0"), form("-1")
		for j := range k {
			line.M = append(line.M, mono(i*k+j, "1"))
			column.M = append(column.M, mono(j*k+i, "1"))
		}
		rows = append(rows, line, column)
	}
	x, p := start(t, k*k, rows...)
	var pairs []api.Both
	for v := range k * k {
		say(t, x, p, lower(v, "0", "0", v))
		for w := range v {
			pairs = append(pairs, api.Both{A: v, B: w})
		}
	}
	for i := range k {
		line, column := k*k+2*i, k*k+2*i+1
		say(t, x, p, lower(line, "1", "0", 1000+line), upper(line, "1", "0", 2000+line), lower(column, "0", "0", 1000+column), upper(column, "0", "0", 2000+column))
	}
	check(t, x, p)
	for _, text := range apart(t, x, p, pairs...) {
		if len(text) > 1000 {
			t.Fatalf("B9: a number of %d digits", len(text))
		}
	}
	if same(t, x, p, 0, 1) || !same(t, x, p, k*k, k*k+2) {
		t.Error("B8: two of the square, two of the sums")
	}
	push(x, p)
	say(t, x, p, upper(k*k, "1", "-1", -1))
	if ok, tags := check(t, x, p); ok || !slices.Equal(tags, []int{-1, 1000 + k*k}) {
		t.Errorf("B5: a line of the square is below 1: %v, %v", ok, tags)
	}
	pop(t, x, p, 1)
	for i := range k {
		say(t, x, p, upper(i, "1/13", "0", -2-i))
	}
	if ok, tags := check(t, x, p); ok || len(tags) != k+1 {
		t.Errorf("B5: a line of the square is too small: %v, %v", ok, tags)
	}
}

// TestTies: where there is much to choose from, that is as good, the answers do not hang on the order of a map.
func TestTies(t *testing.T) {
	rng := rand.New(rand.NewSource(10))
	const n, count = 25, 60
	for range 6 {
		var rows []api.Lin
		for range count {
			a, b := rng.Intn(n-1), 0
			b = a + 1 + rng.Intn(n-1-a)
			rows = append(rows, form("0", mono(a, "1"), mono(b, "-1")))
		}
		var bounds []api.Bound
		for i := range count {
			bounds = append(bounds, lower(n+i, strconv.Itoa(1+rng.Intn(2)), "0", i), upper(n+i, strconv.Itoa(2+rng.Intn(30)), "0", count+i))
		}
		var first []any
		for try := range 5 {
			x, p := start(t, n, rows...)
			var told []any
			for i, b := range bounds {
				push(x, p)
				say(t, x, p, b)
				if i%10 != 9 {
					continue
				}
				ok, shares := x.Check()
				point, _ := x.Point()
				told = append(told, shares, point)
				if !ok {
					pop(t, x, p, 10)
					continue
				}
				q, _ := x.Equal(0, i%n)
				plain, _ := x.Apart([]api.Both{{A: 1, B: 2}, {A: n, B: n + 1}, {A: 3, B: n + 2}})
				told = append(told, q, plain)
			}
			if try == 0 {
				first = told
			} else if !reflect.DeepEqual(first, told) {
				t.Fatal("P0.5: two tableaus that were told and asked the same do not answer the same")
			}
		}
	}
}

// TestKnown: tableaus with a point that is known, tight around it or not; then bounds that cut it off.
func TestKnown(t *testing.T) {
	rng := rand.New(rand.NewSource(8))
	for range 12 {
		n := 10 + rng.Intn(30)
		room := rng.Intn(3)
		point := make([]int, n)
		for i := range point {
			point[i] = rng.Intn(21) - 10
		}
		var rows []api.Lin
		var worth []int
		for range 2 * n {
			f, sum := api.Lin{K: "0"}, 0
			for v := range n {
				if c := rng.Intn(9) - 4; rng.Intn(n) < 3 && c != 0 {
					f.M = append(f.M, mono(v, strconv.Itoa(c)))
					sum += c * point[v]
				}
			}
			rows = append(rows, f)
			worth = append(worth, sum)
		}
		x, p := start(t, n, rows...)
		for i, sum := range worth {
			far := rng.Intn(room + 1)
			if rng.Intn(2) == 0 {
				say(t, x, p, upper(n+i, strconv.Itoa(sum+far), "0", i))
			} else {
				say(t, x, p, lower(n+i, strconv.Itoa(sum-far), "0", i))
			}
		}
		if ok, _ := check(t, x, p); !ok {
			t.Fatal("B5: there is a point within the bounds")
		}
		var pairs []api.Both
		for i := range n {
			for j := range i {
				if point[i] != point[j] {
					pairs = append(pairs, api.Both{A: i, B: j})
				} else if room == 0 || i%5 == 0 {
					same(t, x, p, i, j)
				}
			}
		}
		apart(t, x, p, pairs...)
		for tag := range 20 {
			push(x, p)
			say(t, x, p, someBound(rng, p.vars(), 1000+tag))
			if ok, _ := check(t, x, p); !ok {
				pop(t, x, p, 1)
			}
		}
	}
}

func TestManyLevels(t *testing.T) {
	const levels = 1000000
	x, p := start(t, 1)
	for range levels {
		push(x, p)
	}
	say(t, x, p, lower(0, "1", "0", 0))
	push(x, p)
	say(t, x, p, upper(0, "0", "0", 1))
	if ok, _ := check(t, x, p); ok {
		t.Error("B5: 1 <= x <= 0")
	}
	pop(t, x, p, 1)
	if ok, _ := check(t, x, p); !ok {
		t.Error("B4: the last of many levels")
	}
	if err := x.Pop(levels + 1); err != api.ErrLevel {
		t.Errorf("B4: Pop of one level too many = %d", err)
	}
	pop(t, x, p, levels)
	say(t, x, p, upper(0, "0", "0", 0))
	if ok, _ := check(t, x, p); !ok {
		t.Error("B4: many levels at once")
	}
}

// TestComeAndGo: bounds that come and go very often leave nothing behind.
func TestComeAndGo(t *testing.T) {
	x, p := start(t, 3, form("0", mono(0, "1"), mono(1, "1")), form("0", mono(1, "1"), mono(2, "-1")), form("1", mono(0, "3"), mono(2, "1")))
	rng := rand.New(rand.NewSource(9))
	for range 3000 {
		push(x, p)
		for tag := range 1 + rng.Intn(5) {
			say(t, x, p, someBound(rng, p.vars(), tag))
		}
		if rng.Intn(3) > 0 {
			check(t, x, p)
		}
		pop(t, x, p, 1)
	}
	if ok, _ := check(t, x, p); !ok {
		t.Error("B11: a tableau without bounds clashes")
	}
}

// TestManyOut: very many short rows come out of their bounds at one time, and go on to do so as others are set right. The bounds are around a point that is known, so that they can hold, but some that now and then come on top.
func TestManyOut(t *testing.T) {
	points := manyOut(t)
	if again := manyOut(t); !reflect.DeepEqual(points, again) {
		t.Error("P0.5: the same calls, and other points")
	}
}

func manyOut(t *testing.T) [][]api.Delta {
	t.Helper()
	const n, rows = 250, 600
	rng := rand.New(rand.NewSource(4))
	var forms []api.Lin
	for range rows {
		v := rng.Intn(n - 1)
		w := v + 1 + rng.Intn(min(n-v-1, 20))
		forms = append(forms, form("0", mono(v, "1"), mono(w, "-1")))
	}
	var points [][]api.Delta
	x, p := start(t, n, forms...)
	for round := range 8 {
		at := rng.Perm(n)
		gap := func(i int) int { return at[forms[i].M[0].V] - at[forms[i].M[1].V] }
		push(x, p)
		for i := range forms {
			if (i+round)%4 > 0 {
				say(t, x, p, lower(n+i, strconv.Itoa(gap(i)-round%3), "0", 2*i), upper(n+i, strconv.Itoa(gap(i)+round%2), "0", 2*i+1))
			}
		}
		if ok, _ := check(t, x, p); !ok {
			t.Fatalf("B5: the round %d: false", round)
		}
		push(x, p)
		for i := range 3 {
			v := round*rows/12 + i
			say(t, x, p, upper(n+v, strconv.Itoa(gap(v)-i-2), "0", -1-i))
		}
		check(t, x, p)
		pop(t, x, p, 1)
		if ok, _ := check(t, x, p); !ok {
			t.Fatalf("B11: the round %d, once more: false", round)
		}
		point, _ := x.Point()
		points = append(points, point)
		pop(t, x, p, 1)
	}
	return points
}
