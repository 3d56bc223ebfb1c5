package simplex_test

import (
	"math/rand"
	"slices"
	"strings"
	"testing"

	"arbiter/api"
	"arbiter/simplex"
)

// exampleRows: x + y (2), x - y (3), 5 (4), of x (0) and y (1).
func exampleRows() []api.Lin {
	return []api.Lin{form("0", mono(0, "1"), mono(1, "1")), form("0", mono(0, "1"), mono(1, "-1")), form("5")}
}

func TestNew(t *testing.T) {
	for _, c := range []struct {
		n    int
		rows []api.Lin
		err  api.Errno
	}{
		{0, nil, api.OK},
		{0, []api.Lin{}, api.OK},
		{0, []api.Lin{form("-7/3"), form("0")}, api.OK},
		{3, exampleRows(), api.OK},
		{1, []api.Lin{form("0", mono(0, "1")), form("0", mono(0, "1")), form("4", mono(0, "-1/2"))}, api.OK},
		{-1, nil, api.ErrRow},
		{-1 << 63, []api.Lin{form("x")}, api.ErrRow},
		{1<<63 - 1, []api.Lin{form("x")}, api.ErrRow},
		{api.MaxVars, []api.Lin{form("x")}, api.ErrRow},
		{2, []api.Lin{form("0", mono(0, "1"), mono(2, "1"))}, api.ErrRow},
		{0, []api.Lin{form("0", mono(0, "1"))}, api.ErrRow},
		{1, []api.Lin{form("0", mono(0, "2/4"))}, api.ErrText},
		{1, []api.Lin{form("")}, api.ErrText},
		{1, []api.Lin{{}}, api.ErrText},
		{1, []api.Lin{form("+1")}, api.ErrText},
		{1, []api.Lin{form("0", mono(0, "0"))}, api.ErrForm},
		{2, []api.Lin{form("0", mono(1, "1"), mono(0, "1"))}, api.ErrForm},
		{2, []api.Lin{form("0", mono(1, "1"), mono(1, "1"))}, api.ErrForm},
		{2, []api.Lin{form("0", mono(-1, "1"))}, api.ErrForm},
		// a row by itself: what lin.Check says ahead of the variables
		{1, []api.Lin{form("1.5", mono(5, "1"))}, api.ErrText},
		{1, []api.Lin{form("0", mono(5, "1"), mono(4, "1"))}, api.ErrForm},
		// the rows in their order, whichever error it is
		{1, []api.Lin{form("0", mono(1, "1")), form("x")}, api.ErrRow},
		{1, []api.Lin{form("x"), form("0", mono(1, "1"))}, api.ErrText},
		{1, []api.Lin{form("0", mono(0, "0")), form("x")}, api.ErrForm},
		{2, append(exampleRows(), form("0", mono(1, "1"), mono(0, "1")), form("x")), api.ErrForm},
	} {
		x, err := simplex.New(c.n, c.rows)
		if err != c.err || (x == nil) != (c.err != api.OK) {
			t.Errorf("B2: New(%d, %v) = %v, %d, want %d", c.n, c.rows, x != nil, err, c.err)
		}
	}
}

func TestAssertErrors(t *testing.T) {
	x, p := start(t, 2, exampleRows()...)
	say(t, x, p, lower(0, "1", "0", 1))
	check(t, x, p)
	for _, c := range []struct {
		b   api.Bound
		err api.Errno
	}{
		{upper(5, "1", "0", 2), api.ErrRow},
		{upper(-1, "x", "y", 1), api.ErrRow},
		{upper(1<<63-1, "1", "0", 2), api.ErrRow},
		{lower(-1<<63, "1", "0", 2), api.ErrRow},
		{upper(0, "2/4", "7", 1), api.ErrText},
		{upper(0, "7", "2/4", 1), api.ErrText},
		{upper(4, "", "0", 2), api.ErrText},
		{upper(4, "0", "", 2), api.ErrText},
		{lower(4, "1.0", "0", 2), api.ErrText},
		{lower(4, "0", "-0", 2), api.ErrText},
		{upper(0, "1", "1", 1), api.ErrForm},
		{upper(0, "1", "-2", 1), api.ErrForm},
		{upper(0, "1", "-1/2", 2), api.ErrForm},
		{lower(0, "1", "-1", 1), api.ErrForm},
		{lower(0, "1", "2", 2), api.ErrForm},
		{lower(0, "1", "1/2", 2), api.ErrForm},
		{upper(0, "1", "0", 1), api.ErrTag},
		{upper(3, "1", "-1", 1), api.ErrTag},
		{lower(0, "1", "1", 1), api.ErrTag},
		{lower(0, "1", "0", 1), api.ErrTag},
	} {
		if err := x.Assert(c.b); err != c.err {
			t.Errorf("B3: Assert(%v) = %d, want %d", c.b, err, c.err)
		}
		if _, err := x.Point(); err != api.OK {
			t.Fatalf("B1: behind the refused Assert(%v) Point = %d", c.b, err)
		}
	}
	// what was refused is not in force, its tag is free
	say(t, x, p, upper(0, "1", "0", 2), lower(4, "5", "0", -1<<63), upper(4, "5", "0", 1<<63-1), lower(1, "0", "1", 0), upper(1, "1", "-1", -1))
	if ok, _ := check(t, x, p); !ok {
		t.Error("B1: bounds that were refused clash")
	}
}

// TestTags: a tag is free again as soon as its bound is taken back; a bound that says nothing new has one too.
func TestTags(t *testing.T) {
	x, p := start(t, 2)
	say(t, x, p, lower(0, "3", "0", 7))
	push(x, p)
	say(t, x, p, lower(0, "2", "0", 8), lower(0, "3", "0", 9), upper(1, "0", "0", 10))
	for _, tag := range []int{7, 8, 9, 10} {
		if err := x.Assert(upper(1, "1", "0", tag)); err != api.ErrTag {
			t.Errorf("B3: Assert with the tag %d of a bound in force: %d", tag, err)
		}
	}
	pop(t, x, p, 1)
	say(t, x, p, upper(0, "3", "-1", 8))
	if err := x.Assert(upper(1, "1", "0", 7)); err != api.ErrTag {
		t.Errorf("B4: Pop frees a tag that was there ahead: %d", err)
	}
	if ok, tags := check(t, x, p); ok || !slices.Equal(tags, []int{7, 8}) {
		t.Errorf("B5: 3 <= x < 3: %v, %v", ok, tags)
	}
}

func TestLevels(t *testing.T) {
	x, p := start(t, 1)
	for _, n := range []int{-1, 1, -1 << 63, 1<<63 - 1} {
		if err := x.Pop(n); err != api.ErrLevel {
			t.Errorf("B4: Pop(%d) without levels = %d", n, err)
		}
	}
	say(t, x, p, lower(0, "0", "0", 0))
	for i := range 5 {
		push(x, p)
		say(t, x, p, upper(0, string(rune('4'-i)), "0", 10+i))
	}
	push(x, p)
	say(t, x, p, upper(0, "0", "-1", 20))
	if ok, tags := check(t, x, p); ok || !slices.Equal(tags, []int{0, 20}) {
		t.Errorf("B5: 0 <= x < 0: %v, %v", ok, tags)
	}
	for _, n := range []int{-1, 7} {
		if err := x.Pop(n); err != api.ErrLevel {
			t.Errorf("B4: Pop(%d) of 6 levels = %d", n, err)
		}
	}
	if ok, tags := check(t, x, p); ok || !slices.Equal(tags, []int{0, 20}) {
		t.Errorf("B1: a refused Pop changes something: %v, %v", ok, tags)
	}
	pop(t, x, p, 0)
	if ok, _ := check(t, x, p); ok {
		t.Error("B4: Pop(0) takes something back")
	}
	pop(t, x, p, 2)
	if ok, _ := check(t, x, p); !ok || len(p.bounds) != 5 {
		t.Error("B4: Pop(2) takes too little back")
	}
	say(t, x, p, lower(0, "1", "1", 30))
	if ok, tags := check(t, x, p); ok || !slices.Equal(tags, []int{13, 30}) {
		t.Errorf("B4: Pop(2) takes too much back: %v, %v", ok, tags)
	}
	pop(t, x, p, 4)
	if ok, _ := check(t, x, p); !ok || len(p.bounds) != 1 {
		t.Error("B4: Pop(4)")
	}
	if err := x.Pop(1); err != api.ErrLevel {
		t.Errorf("B4: Pop(1) without levels = %d", err)
	}
	// what was said without a level stays
	say(t, x, p, upper(0, "0", "-1", 20))
	if ok, tags := check(t, x, p); ok || !slices.Equal(tags, []int{0, 20}) {
		t.Errorf("B4: what was said ahead of the levels: %v, %v", ok, tags)
	}
}

// TestExamples: the chapter's table.
func TestExamples(t *testing.T) {
	x, p := start(t, 2, exampleRows()...)
	if point, err := x.Point(); err != api.ErrState || len(point) > 0 {
		t.Errorf("B6: Point ahead of Check = %v, %d", point, err)
	}
	say(t, x, p, lower(0, "1", "0", 1), lower(1, "2", "1", 2))
	if ok, _ := check(t, x, p); !ok {
		t.Error("B5: x >= 1, y > 2")
	}
	if err := x.Assert(upper(0, "7", "0", 2)); err != api.ErrTag {
		t.Errorf("B3: the tag 2 again: %d", err)
	}
	if err := x.Assert(upper(0, "7", "1", 3)); err != api.ErrForm {
		t.Errorf("B3: at most 7 + delta: %d", err)
	}
	push(x, p)
	say(t, x, p, upper(2, "3", "0", 3))
	if ok, tags := check(t, x, p); ok || !slices.Equal(tags, []int{1, 2, 3}) {
		t.Errorf("B5: x + y <= 3 beside: %v, %v", ok, tags)
	}
	say(t, x, p, lower(0, "0", "0", 9))
	if ok, tags := check(t, x, p); ok || !slices.Equal(tags, []int{1, 2, 3}) {
		t.Errorf("B12: x >= 0 beside: %v, %v", ok, tags)
	}
	pop(t, x, p, 1)
	if ok, _ := check(t, x, p); !ok {
		t.Error("B11: what was taken back clashes")
	}
	if err := x.Pop(1); err != api.ErrLevel {
		t.Errorf("B4: Pop(1) = %d", err)
	}
	if same(t, x, p, 0, 1) {
		t.Error("B8: x and y are the same")
	}
	apart(t, x, p, api.Both{A: 0, B: 1})
	push(x, p)
	say(t, x, p, upper(0, "1", "0", 4), upper(2, "4", "0", 5), upper(3, "-2", "0", 6))
	if ok, _ := check(t, x, p); !ok {
		t.Error("B5: x = 1, y = 3")
	}
	if same(t, x, p, 2, 4) {
		t.Error("B8: 4 and 5 are the same")
	}
	if q, err := x.Equal(1, 1); err != api.OK || !q.Same || len(q.Up)+len(q.Down)+len(q.Point) > 0 {
		t.Errorf("B8: Equal(1, 1) = %v, %d", q, err)
	}
	if point, err := x.Apart([]api.Both{{A: 0, B: 1}, {A: 1, B: 1}}); err != api.ErrSame || len(point) > 0 {
		t.Errorf("B9: y and y apart: %v, %d", point, err)
	}
	if point := apart(t, x, p, api.Both{A: 0, B: 1}, api.Both{A: 2, B: 4}); !slices.Equal(point, []string{"1", "3", "4", "-2", "5"}) {
		t.Errorf("B9: the only point is %v", point)
	}
	say(t, x, p, upper(4, "4", "0", 10))
	if ok, tags := check(t, x, p); ok || !slices.Equal(tags, []int{10}) {
		t.Errorf("B5: 5 <= 4: %v, %v", ok, tags)
	}
}

func TestExampleSame(t *testing.T) {
	x, p := start(t, 2, exampleRows()...)
	say(t, x, p, upper(3, "0", "0", 1), lower(3, "0", "0", 2))
	check(t, x, p)
	q, err := x.Equal(0, 1)
	p.equality(t, 0, 1, q)
	if err != api.OK || !q.Same || !slices.Equal(q.Up, []api.Share{{Tag: 1, C: "1"}}) || !slices.Equal(q.Down, []api.Share{{Tag: 2, C: "1"}}) {
		t.Errorf("B8: x <= y, y <= x: %v, %d", q, err)
	}
	q, _ = x.Equal(1, 0)
	p.equality(t, 1, 0, q)
	if !q.Same || !slices.Equal(q.Up, []api.Share{{Tag: 2, C: "1"}}) {
		t.Errorf("B8: turned round: %v", q)
	}
}

// TestConstants: of a row without variables each bound holds or clashes alone.
func TestConstants(t *testing.T) {
	for _, c := range []struct {
		bounds []api.Bound
		clash  []int
	}{
		{[]api.Bound{upper(0, "5", "0", 1), lower(0, "5", "0", 2)}, nil},
		{[]api.Bound{upper(0, "5", "-1", 1)}, []int{1}},
		{[]api.Bound{lower(0, "5", "1", 1)}, []int{1}},
		{[]api.Bound{lower(0, "6", "0", 1), upper(0, "7", "0", 2)}, []int{1}},
		// no room between them, but one of them alone is too much
		{[]api.Bound{lower(0, "6", "0", 1), upper(0, "5", "0", 2)}, []int{1}},
		{[]api.Bound{lower(0, "5", "0", 1), upper(0, "4", "0", 2)}, []int{2}},
		{[]api.Bound{lower(0, "2", "0", 1), upper(0, "1", "0", 2)}, []int{2}},
		{[]api.Bound{lower(0, "9", "0", 1), upper(0, "8", "0", 2)}, []int{1}},
		{[]api.Bound{lower(1, "0", "1", 1)}, []int{1}},
		{[]api.Bound{upper(1, "0", "0", 1), lower(1, "0", "0", 2)}, nil},
	} {
		x, p := start(t, 0, form("5"), form("0"))
		say(t, x, p, c.bounds...)
		if ok, tags := check(t, x, p); ok != (c.clash == nil) || !slices.Equal(tags, c.clash) {
			t.Errorf("B5: a constant 5 with %v: %v, %v, want %v", c.bounds, ok, tags, c.clash)
		}
	}
	x, p := start(t, 0, form("5"), form("10"), form("5"))
	check(t, x, p)
	if same(t, x, p, 0, 1) || !same(t, x, p, 0, 2) {
		t.Error("B8: constants")
	}
	if _, err := x.Apart([]api.Both{{A: 0, B: 1}, {A: 2, B: 0}}); err != api.ErrSame {
		t.Errorf("B9: constants: %d", err)
	}
}

// TestSqueezed: a lower bound above an upper one of the same variable, of a row, of rows that are alike.
func TestSqueezed(t *testing.T) {
	rows := []api.Lin{form("3", mono(0, "2"), mono(1, "-1")), form("3", mono(0, "2"), mono(1, "-1")), form("0", mono(0, "-4"), mono(1, "2"))}
	for _, c := range []struct {
		bounds []api.Bound
		clash  []int
	}{
		{[]api.Bound{lower(0, "1", "0", 1), upper(0, "1", "0", 2)}, nil},
		{[]api.Bound{lower(0, "1", "0", 1), upper(0, "1", "-1", 2)}, []int{1, 2}},
		{[]api.Bound{lower(0, "1", "1", 1), upper(0, "1", "0", 2)}, []int{1, 2}},
		{[]api.Bound{lower(0, "1", "1", 1), upper(0, "1", "-1", 2)}, []int{1, 2}},
		{[]api.Bound{lower(0, "1", "1", 1), upper(0, "1001/1000", "-1", 2)}, nil},
		{[]api.Bound{upper(2, "-7", "0", 1), lower(2, "-6", "0", 2)}, []int{1, 2}},
		{[]api.Bound{upper(2, "-7", "0", 1), lower(3, "-6", "0", 2)}, []int{1, 2}},
		{[]api.Bound{upper(2, "-7", "0", 1), lower(3, "-7", "0", 2)}, nil},
		{[]api.Bound{upper(2, "7", "0", 1), upper(4, "-8", "0", 2)}, nil},
		{[]api.Bound{upper(2, "7", "0", 1), upper(4, "-8", "-1", 2)}, []int{1, 2}},
		{[]api.Bound{lower(2, "7", "1", 1), lower(4, "-8", "0", 2)}, []int{1, 2}},
	} {
		x, p := start(t, 2, rows...)
		say(t, x, p, c.bounds...)
		if ok, tags := check(t, x, p); ok != (c.clash == nil) || !slices.Equal(tags, c.clash) {
			t.Errorf("B5: %v: %v, %v, want %v", c.bounds, ok, tags, c.clash)
		}
	}
}

// TestState: when Point, Equal and Apart are answered.
func TestState(t *testing.T) {
	x, p := start(t, 2, exampleRows()...)
	look := func(when string, want api.Errno) {
		t.Helper()
		point, errPoint := x.Point()
		q, errEqual := x.Equal(0, 2)
		plain, errApart := x.Apart([]api.Both{{A: 0, B: 1}})
		if errPoint != want || errEqual != want || errApart != want {
			t.Errorf("B6: %s: Point %d, Equal %d, Apart %d, want %d", when, errPoint, errEqual, errApart, want)
		}
		if want != api.OK && len(point)+len(q.Up)+len(q.Down)+len(q.Point)+len(plain) > 0 || want != api.OK && q.Same {
			t.Errorf("P0.2: %s: beside the error %v, %v, %v", when, point, q, plain)
		}
		// a number that is no variable comes first
		for _, v := range []int{-1, 5, 1 << 62} {
			if _, err := x.Equal(0, v); err != api.ErrRow {
				t.Errorf("B8: %s: Equal(0, %d) = %d", when, v, err)
			}
			if _, err := x.Equal(v, 0); err != api.ErrRow {
				t.Errorf("B8: %s: Equal(%d, 0) = %d", when, v, err)
			}
			if _, err := x.Apart([]api.Both{{A: 1, B: 1}, {A: v, B: 0}}); err != api.ErrRow {
				t.Errorf("B9: %s: Apart of %d: %d", when, v, err)
			}
			if _, err := x.Apart([]api.Both{{A: 1, B: 1}, {A: 0, B: v}}); err != api.ErrRow {
				t.Errorf("B9: %s: Apart of %d: %d", when, v, err)
			}
		}
		if _, err := x.Apart([]api.Both{{A: 0, B: 1}, {A: 1, B: 1}}); want == api.OK && err != api.ErrSame || want != api.OK && err != want {
			t.Errorf("B9: %s: Apart of a variable and itself: %d", when, err)
		}
		if _, err := x.Apart(nil); err != want {
			t.Errorf("B9: %s: Apart of no pairs: %d", when, err)
		}
	}
	look("at first", api.ErrState)
	check(t, x, p)
	look("behind Check", api.OK)
	look("behind questions", api.OK)
	push(x, p)
	look("behind Push", api.OK)
	pop(t, x, p, 0)
	look("behind Pop(0)", api.OK)
	x.Pop(2)
	x.Pop(-1)
	look("behind a Pop that is refused", api.OK)
	x.Assert(upper(9, "0", "0", 0))
	look("behind an Assert that is refused", api.OK)
	pop(t, x, p, 1)
	look("behind Pop(1) of an empty level", api.ErrState)
	check(t, x, p)
	push(x, p)
	say(t, x, p, lower(0, "0", "0", 0))
	look("behind Assert", api.ErrState)
	check(t, x, p)
	say(t, x, p, lower(0, "-1", "0", 1))
	look("behind an Assert that says nothing new", api.ErrState)
	check(t, x, p)
	look("behind Check again", api.OK)
	say(t, x, p, upper(0, "0", "-1", 2))
	check(t, x, p)
	look("behind a Check that answers false", api.ErrState)
	pop(t, x, p, 1)
	look("behind Pop(1) of a clash", api.ErrState)
	check(t, x, p)
	look("behind the last Check", api.OK)
}

// TestStrict: what is held by strict bounds alone has points as near as can be, but not at the end.
func TestStrict(t *testing.T) {
	x, p := start(t, 2, form("0", mono(0, "1"), mono(1, "1")))
	say(t, x, p, lower(0, "0", "1", 1), lower(1, "0", "1", 2), upper(2, "1/1000000", "-1", 3))
	check(t, x, p)
	if same(t, x, p, 0, 1) {
		t.Error("B8: two variables that are free between strict bounds")
	}
	apart(t, x, p, api.Both{A: 0, B: 1}, api.Both{A: 0, B: 2}, api.Both{A: 1, B: 2})
	say(t, x, p, upper(0, "0", "0", 4))
	if ok, tags := check(t, x, p); ok || !slices.Equal(tags, []int{1, 4}) {
		t.Errorf("B5: 0 < x <= 0: %v, %v", ok, tags)
	}
}

// TestSmallRoom: where there is room only for infinitely small steps, pairs part all the same, and stay apart.
func TestSmallRoom(t *testing.T) {
	rows := []api.Lin{form("0", mono(0, "-1"), mono(1, "1")), form("0", mono(1, "1"), mono(2, "-1")), form("0", mono(1, "1"), mono(3, "-1"))}
	x, p := start(t, 4, rows...)
	say(t, x, p, lower(0, "0", "1", 0), lower(2, "0", "1", 2), lower(3, "0", "1", 3), lower(4, "0", "1", 4), lower(5, "0", "0", 5), lower(6, "0", "0", 6))
	check(t, x, p)
	for _, pairs := range [][]api.Both{{{A: 2, B: 3}, {A: 3, B: 0}}, {{A: 3, B: 2}, {A: 2, B: 0}}, {{A: 0, B: 3}, {A: 0, B: 2}, {A: 2, B: 3}}} {
		apart(t, x, p, pairs...)
	}
}

// TestTwo: two tableaus know nothing of one another.
func TestTwo(t *testing.T) {
	rows := exampleRows()
	x, p := start(t, 2, rows...)
	y, q := start(t, 2, rows...)
	say(t, x, p, lower(0, "1", "0", 1), upper(0, "0", "0", 2))
	say(t, y, q, lower(2, "1", "0", 1))
	if ok, _ := check(t, x, p); ok {
		t.Error("B5: 1 <= x <= 0")
	}
	if ok, _ := check(t, y, q); !ok {
		t.Error("B1: the bounds of another tableau clash")
	}
}

// TestNumbers: the names in api have their numbers.
func TestNumbers(t *testing.T) {
	numbers := []int{int(api.ErrText), int(api.ErrForm), int(api.ErrLevel), int(api.ErrRow), int(api.ErrState), int(api.ErrSame), int(api.ErrTag), api.MaxVars}
	for i, n := range []int{1, 4, 81, 90, 91, 92, 93, 1000000} {
		if numbers[i] != n {
			t.Errorf("P0.8: the number %d of the list is %d, want %d", i, numbers[i], n)
		}
	}
}

// TestLong: numbers of any length.
func TestLong(t *testing.T) {
	huge := strings.Repeat("9", 3000)
	tiny := "1/1" + strings.Repeat("0", 3000)
	x, p := start(t, 2, form(huge, mono(0, huge), mono(1, "-"+tiny)), form("0", mono(0, "1"), mono(1, "-1")))
	say(t, x, p, lower(0, tiny, "1", 1), upper(1, huge+"9", "-1", 2), upper(2, huge, "0", 3))
	if ok, _ := check(t, x, p); !ok {
		t.Error("P0.6: long numbers clash")
	}
	apart(t, x, p, api.Both{A: 0, B: 1}, api.Both{A: 1, B: 2}, api.Both{A: 3, B: 2})
	say(t, x, p, upper(1, "0", "0", 4))
	if ok, tags := check(t, x, p); ok || !slices.Equal(tags, []int{1, 3, 4}) {
		t.Errorf("P0.6: the sum of long numbers: %v, %v", ok, tags)
	}
}

// TestBetween: if a variable can be below a number and above it, it can be it; if neither, it is that number.
func TestBetween(t *testing.T) {
	rng := rand.New(rand.NewSource(13))
	for range 400 {
		x, p := someTableau(t, rng)
		if p.vars() == 0 || !p.can(t, p.bounds) {
			continue
		}
		v, at := rng.Intn(p.vars()), someNumber(rng)
		can := func(bounds ...api.Bound) bool {
			push(x, p)
			say(t, x, p, bounds...)
			ok, _ := check(t, x, p)
			pop(t, x, p, 1)
			return ok
		}
		below, above := can(upper(v, at, "-1", 1000)), can(lower(v, at, "1", 1000))
		just := can(upper(v, at, "0", 1000), lower(v, at, "0", 1001))
		if below && above && !just {
			t.Fatalf("B13: %d can be below %s and above it, but not it", v, at)
		}
		if !below && !above && !just {
			t.Fatalf("B13: %d can be neither %s nor below nor above it", v, at)
		}
	}
}
