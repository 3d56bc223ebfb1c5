package rup_test

import (
	"math"
	"math/rand"
	"slices"
	"strconv"
	"strings"
	"testing"

	"arbiter/api"
	"arbiter/rup"
)

func TestHint(t *testing.T) {
	lines := lookOverHint(t, four(), []api.Step{step(-1, 2)}, []int{1})
	if text, e := rup.Show(four(), lines); e != api.OK || text != "5 2 0 1 2 0\n6 1 0 5 3 4 0\n" && text != "5 2 0 2 1 0\n6 1 0 5 3 4 0\n" {
		t.Errorf("U5, U7: %q, %d", text, e)
	}
	// Where the clauses clash by themselves, what is asked for plays its part all the same.
	clash := api.Cnf{Vars: 3, Clauses: [][]int{{2, 3}, {1}, {-1, 2}, {-2}}}
	for _, clause := range [][]int{nil, {1}, {-1}, {2}, {-2}, {3}, {-3}, {1, 2}, {2, 1}, {-1, 2}, {1, -2}, {-1, -2, 3}, {2, -2}, {3, 2, 2, 3}} {
		lookOverHint(t, clash, []api.Step{step(-1, clause...), step(-1)}, clause)
	}
	// What is held already need not be told by a clause.
	held := api.Cnf{Vars: 4, Clauses: [][]int{{1}, {-1, 2}, {-1, -2, 3}, {-3, 4}}}
	for _, clause := range [][]int{{3}, {3, -1}, {3, -2}, {-2, 3, -1}, {4, -3}, {4, 3}, {4, 2}, {1, 4}} {
		lookOverHint(t, held, nil, clause)
	}
}

func TestFollow(t *testing.T) {
	for i, x := range []struct {
		lines []api.Line
		e     api.Errno
		at    int
	}{
		{nil, api.OK, 0},
		{[]api.Line{add([]int{2}, 1, 2)}, api.OK, 0},
		{[]api.Line{add([]int{2}, 2, 1)}, api.OK, 0},
		{[]api.Line{add([]int{2, 2}, 2, 1)}, api.OK, 0},
		{[]api.Line{add([]int{2}, 2, 1, 3)}, api.ErrStep, 0},
		{[]api.Line{add([]int{2}, 2, 1, 99)}, api.ErrStep, 0},
		{[]api.Line{add([]int{2}, 1)}, api.ErrStep, 0},
		{[]api.Line{add([]int{2})}, api.ErrStep, 0},
		{[]api.Line{add([]int{2, -2})}, api.OK, 0},
		{[]api.Line{add([]int{2, 1, -2}, 1)}, api.ErrStep, 0},
		{[]api.Line{add([]int{4}, 1)}, api.ErrStep, 0},
		{[]api.Line{add([]int{2, 0}, 1, 2)}, api.ErrStep, 0},
		{[]api.Line{add([]int{2, -2, math.MinInt})}, api.ErrStep, 0},
		{[]api.Line{add([]int{2}, 1, 5)}, api.ErrStep, 0}, // its own number
		{[]api.Line{add([]int{2}, 0)}, api.ErrStep, 0},
		{[]api.Line{add([]int{2}, -1, 2)}, api.ErrStep, 0},
		{[]api.Line{add([]int{2}, math.MinInt)}, api.ErrStep, 0},
		{[]api.Line{add([]int{2}, math.MaxInt)}, api.ErrStep, 0},
		{[]api.Line{add([]int{2}, 1, 2), gone(1, 2), add([]int{1}, 5, 3, 4)}, api.OK, 0},
		{[]api.Line{add([]int{2}, 1, 2), gone(1, 5), add([]int{1}, 5, 3, 4)}, api.ErrStep, 2},
		{[]api.Line{gone(1), add([]int{2}, 1, 2)}, api.ErrStep, 1},
		{[]api.Line{gone(1, 1)}, api.ErrStep, 0},
		{[]api.Line{gone(2, 1, 2)}, api.ErrStep, 0},
		{[]api.Line{gone(), gone(4), gone(4)}, api.ErrStep, 2},
		{[]api.Line{gone(5)}, api.ErrStep, 0},
		{[]api.Line{gone(0)}, api.ErrStep, 0},
		{[]api.Line{gone(-1)}, api.ErrStep, 0},
		{[]api.Line{{Delete: true, Lits: []int{1}}}, api.ErrStep, 0},
		{[]api.Line{add([]int{2}, 1, 1, 2)}, api.OK, 0}, // the second time it says what is held
		{[]api.Line{add([]int{3}, 1, 3)}, api.ErrStep, 0},
		{[]api.Line{add([]int{2}, 1, 2), add([]int{1}, 5, 3), gone(77)}, api.ErrStep, 1},
		{[]api.Line{add([]int{1, -1}), add(nil, 5)}, api.ErrStep, 1},
	} {
		if e, at := rup.Follow(four(), x.lines); e != x.e || at != x.at {
			t.Errorf("U6: %d: %v: %d, %d, want %d, %d", i, x.lines, e, at, x.e, x.at)
		}
	}
	doubled := api.Cnf{Vars: 3, Clauses: [][]int{{1, 2, 1, 1}, {-1, 3, -1}, {3, -3, 2}, {}}}
	for i, x := range []struct {
		line api.Line
		e    api.Errno
	}{
		{add([]int{2, 3}, 1, 2), api.OK},
		{add([]int{3}, 2, 1), api.ErrStep},
		{add([]int{2, 3}, 3, 1, 2), api.OK}, // of 3, -3, 2 the literal -3 is held already
		{add([]int{2}, 3, 1, 2), api.ErrStep},
		{add(nil, 4), api.OK},
		{add([]int{1}, 4), api.OK},
		{add([]int{2}, 1, 4), api.OK},
		{add([]int{2}, 4, 1), api.ErrStep},
	} {
		if e, at := rup.Follow(doubled, []api.Line{x.line}); e != x.e || at != 0 {
			t.Errorf("U6: %d: %v: %d, %d, want %d", i, x.line, e, at, x.e)
		}
	}
}

// someLines is lines of steps that stand, with some taken away and some spoilt.
func someLines(rng *rand.Rand, c api.Cnf) []api.Line {
	steps, clause := someSteps(rng, c, false)
	lines, _ := rup.Hint(c, steps, clause)
	count := len(c.Clauses) + len(lines)
	for range rng.Intn(3) {
		at := rng.Intn(len(lines) + 1)
		var hints []int
		for range rng.Intn(3) {
			hints = append(hints, 1+rng.Intn(count))
		}
		lines = slices.Insert(lines, at, gone(hints...))
	}
	for range rng.Intn(3) {
		line := &lines[rng.Intn(len(lines))]
		switch n := len(line.Hints); rng.Intn(6) {
		case 0:
			line.Hints = slices.Insert(line.Hints, rng.Intn(n+1), 1+rng.Intn(count))
		case 1:
			if n > 0 {
				line.Hints = drop(line.Hints, rng.Intn(n))
			}
		case 2:
			if n > 1 {
				line.Hints[0], line.Hints[n-1] = line.Hints[n-1], line.Hints[0]
			}
		case 3:
			line.Lits = append(line.Lits, someLit(rng, c.Vars))
		case 4:
			line.Hints = append(line.Hints, rng.Intn(3)-1)
		case 5:
			line.Delete = !line.Delete
		}
	}
	return lines
}

func TestFollowAgainstPlain(t *testing.T) {
	count := map[api.Errno]int{}
	for seed := range int64(4000) {
		rng := rand.New(rand.NewSource(seed))
		c := someCnf(rng)
		lines := someLines(rng, c)
		e, at := rup.Follow(c, lines)
		wantE, wantAt := plainFollow(c, lines)
		if e != wantE || at != wantAt {
			t.Fatalf("U6: Follow(%v, %v): %d, %d, want %d, %d", c, lines, e, at, wantE, wantAt)
		}
		count[e]++
		if e != api.OK || c.Vars > 5 {
			continue
		}
		for _, lits := range truths(c.Vars) {
			for _, line := range lines {
				if allTrue(c.Clauses, lits) && !line.Delete && !allTrue([][]int{line.Lits}, lits) {
					t.Fatalf("U9: Follow(%v, %v) is OK", c, lines)
				}
			}
		}
	}
	if count[api.OK] < 500 || count[api.ErrStep] < 500 {
		t.Errorf("the test is one-sided: %v", count)
	}
}

func TestShow(t *testing.T) {
	for _, x := range []struct {
		c     api.Cnf
		lines []api.Line
		want  string
	}{
		{four(), []api.Line{add([]int{2}, 1, 2), gone(1, 2), add([]int{1}, 5, 3, 4)}, "5 2 0 1 2 0\n5 d 1 2 0\n6 1 0 5 3 4 0\n"},
		{four(), []api.Line{gone(1, 2)}, "4 d 1 2 0\n"},
		{four(), nil, ""},
		{four(), []api.Line{gone(), gone(9, 9), add([]int{-3, 3, -3}, 7), add(nil)}, "4 d 0\n4 d 9 9 0\n5 -3 3 -3 0 7 0\n6 0 0\n"},
		{api.Cnf{}, []api.Line{gone(), add(nil, 1), gone(1)}, "0 d 0\n1 0 1 0\n1 d 1 0\n"},
		{four(), []api.Line{add(nil, 999999999999999999), gone(999999999999999999)}, "5 0 999999999999999999 0\n5 d 999999999999999999 0\n"},
	} {
		if got, e := rup.Show(x.c, x.lines); e != api.OK || got != x.want {
			t.Errorf("U7: Show(%v): %q, %d, want %q", x.lines, got, e, x.want)
		}
	}
	for _, line := range []api.Line{
		add([]int{0}), add([]int{4}), add([]int{1, -4}), add([]int{math.MinInt}), add(nil, 0), add(nil, 1, -1), add(nil, 1000000000000000000), add(nil, math.MaxInt), add(nil, math.MinInt), gone(-1), gone(1, 0), gone(1000000000000000000), {Delete: true, Lits: []int{1}}, {Delete: true, Lits: []int{0}, Hints: []int{1}},
	} {
		for _, lines := range [][]api.Line{{line}, {add([]int{2}, 1, 2), line}, {line, gone()}} {
			if got, e := rup.Show(four(), lines); got != "" || e != api.ErrStep {
				t.Errorf("U7: Show(%v): %q, %d", lines, got, e)
			}
		}
	}
}

func TestRead(t *testing.T) {
	for _, x := range []struct {
		c    api.Cnf
		text string
		want []api.Line
	}{
		{four(), "5 2 0 1 2 0\n5 d 1 2 0\n6 1 0 5 3 4 0\n", []api.Line{add([]int{2}, 1, 2), gone(1, 2), add([]int{1}, 5, 3, 4)}},
		{four(), "", nil},
		{four(), " \t\r\n", nil},
		{four(), "c only a note", nil},
		{four(), "c note\n5 2 0\n1 2\t0", []api.Line{add([]int{2}, 1, 2)}},
		{four(), "5\n2\ncut\r0\rc 7\n1 2 0 5 d 0 6 0 0\nc", []api.Line{add([]int{2}, 1, 2), gone(), add(nil)}},
		{four(), "4 d 1 0", []api.Line{gone(1)}},
		{four(), "4 d 0 4 d 77 77 0", []api.Line{gone(), gone(77, 77)}},
		{four(), "5 0 0", []api.Line{add(nil)}},
		{four(), "5 -1 3 -3 3 0 999999999999999999 0", []api.Line{add([]int{-1, 3, -3, 3}, 999999999999999999)}},
		{api.Cnf{}, "0 d 0\n1 0 1 0\n1 d 1 0", []api.Line{gone(), add(nil, 1), gone(1)}},
	} {
		if got, e, at := rup.Read(x.c, x.text); e != api.OK || at != 0 || !sameLines(got, x.want) {
			t.Errorf("U8: Read(%q): %v, %d, %d, want %v", x.text, got, e, at, x.want)
		}
	}
}

func TestReadErrors(t *testing.T) {
	for _, x := range []struct {
		text string
		at   int
	}{
		{"5 2 0 1 2", 9}, {"6 2 0 1 2 0", 0}, {"4 2 0 1 0", 2}, {"5 d 1 0", 2}, {"5", 1}, {"5 ", 2}, {"5 2", 3}, {"5 2 0", 5}, {"5 2 0 1", 7}, {"4", 1}, {"4 d", 3}, {"4 d 1", 5}, {"4 d 1 \n", 7}, {"5 2 0 1 \nc", 10},
		{"5 4 0 0", 2}, {"5 -4 0 0", 2}, {"5 1 -0 0", 4}, {"5 01 0 0", 2}, {"5 1 +2 0 0", 4}, {"5 1 x 0", 4}, {"5 - 0 0", 2}, {"5 --1 0 0", 2}, {"5 1 00 0", 4},
		{"5 1 0 -1 0", 6}, {"5 1 0 1000000000000000000 0", 6}, {"5 1 0 99999999999999999999999 0", 6}, {"5 1 0 01 0", 6}, {"5 1 0 1 -0", 8}, {"5 1 0 d 0", 6}, {"5 1 0 1 00", 8}, {"5 1 0 000000000000000001 0", 6},
		{"05 1 0 0", 0}, {"0 d 0", 0}, {"3 d 0", 0}, {"-5 0 0", 0}, {"x", 0}, {"d 1 0", 0}, {"18446744073709551621 0 0", 0}, {"9223372036854775807 0 0", 0}, {"5x 0 0", 0},
		{"4 D 1 0", 2}, {"4 dd 1 0", 2}, {"4 0", 2}, {"4 d -1 0", 4}, {"4 d 1 d 0", 6}, {"4 d d 0", 4}, {"4d 1 0", 0},
		{"5 0 0 5 0 0", 8}, {"5 0 0 6 0 0 5 d 0", 12}, {"5 0 0 4 d 0", 6}, {"5 0 0 7 0 0", 6}, {"5 0 0 0", 6}, {"5 0 0 x", 6}, {"5 0 0\n c", 7}, {"5 0 0 c", 6}, {"5 0 0\n\xff", 6}, {"5\v0 0", 0},
	} {
		if got, e, at := rup.Read(four(), x.text); e != api.ErrSyntax || at != x.at || len(got) > 0 {
			t.Errorf("U8: Read(%q): %v, %d, %d, want ErrSyntax at %d", x.text, got, e, at, x.at)
		}
	}
}

// plainWord is a word and where it begins.
type plainWord struct {
	text string
	at   int
}

// plainWords cuts a text up: comments are turned into blanks first.
func plainWords(text string) []plainWord {
	bytes := []byte(text)
	for i := 0; i < len(bytes); i++ {
		if text[i] == 'c' && (i == 0 || text[i-1] == 10 || text[i-1] == 13) {
			for ; i < len(bytes) && text[i] != 10 && text[i] != 13; i++ {
				bytes[i] = ' '
			}
		}
	}
	var out []plainWord
	for i := 0; i < len(bytes); i++ {
		end := i
		for end < len(bytes) && !strings.Contains("\t\n\r ", string(rune(bytes[end]))) {
			end++
		}
		if end > i {
			out = append(out, plainWord{string(bytes[i:end]), i})
			i = end
		}
	}
	return append(out, plainWord{"", len(text)})
}

// plainRead goes by U8's words. A word that stands is one of those that may come next.
func plainRead(c api.Cnf, text string) ([]api.Line, api.Errno, int) {
	all := plainWords(text)
	var lines []api.Line
	last := len(c.Clauses)
	at := 0
	number := func(most int) (int, bool) {
		n, err := strconv.Atoi(all[at].text)
		return n, err == nil && strconv.Itoa(n) == all[at].text && n <= most
	}
	fail := func() ([]api.Line, api.Errno, int) { return nil, api.ErrSyntax, all[at].at }
	for ; all[at].text != ""; at++ {
		first, ok := number(last + 1)
		if !ok || first < last {
			return fail()
		}
		line := api.Line{Delete: first == last}
		at++
		if line.Delete {
			if all[at].text != "d" {
				return fail()
			}
		} else {
			for {
				n, ok := number(c.Vars)
				if !ok || n < -c.Vars {
					return fail()
				}
				if n == 0 {
					break
				}
				line.Lits = append(line.Lits, n)
				at++
			}
		}
		for {
			at++
			n, ok := number(999999999999999999)
			if !ok || n < 0 {
				return fail()
			}
			if n == 0 {
				break
			}
			line.Hints = append(line.Hints, n)
		}
		lines = append(lines, line)
		last = first
	}
	return lines, api.OK, 0
}

// Texts that are written, then spoilt a little.
func TestReadAgainstPlain(t *testing.T) {
	count := map[api.Errno]int{}
	for seed := range int64(20000) {
		rng := rand.New(rand.NewSource(seed))
		c := someCnf(rng)
		var lines []api.Line
		for range rng.Intn(5) {
			line := api.Line{Delete: rng.Intn(3) == 0}
			if !line.Delete {
				line.Lits = someClause(rng, c.Vars, 3)
			}
			for range rng.Intn(4) {
				line.Hints = append(line.Hints, 1+rng.Intn(20))
			}
			lines = append(lines, line)
		}
		text, e := rup.Show(c, lines)
		if e != api.OK {
			t.Fatalf("U7: Show(%v): %d", lines, e)
		}
		if got, e, at := rup.Read(c, text); e != api.OK || at != 0 || !sameLines(got, lines) {
			t.Fatalf("U11: Read(%q): %v, %d, %d, want %v", text, got, e, at, lines)
		}
		for range rng.Intn(4) {
			bytes := []byte(text)
			at := rng.Intn(len(bytes) + 1)
			some := []byte("0123 -d\nc\t\r")[rng.Intn(11)]
			switch {
			case rng.Intn(2) == 0 || at == len(bytes):
				bytes = slices.Insert(bytes, at, some)
			case rng.Intn(2) == 0:
				bytes = slices.Delete(bytes, at, at+1)
			default:
				bytes[at] = some
			}
			text = string(bytes)
		}
		got, e, at := rup.Read(c, text)
		want, wantE, wantAt := plainRead(c, text)
		if e != wantE || at != wantAt || !sameLines(got, want) {
			t.Fatalf("U8: Read(%v, %q): %v, %d, %d, want %v, %d, %d", c, text, got, e, at, want, wantE, wantAt)
		}
		count[e]++
		if e == api.OK {
			if _, e := rup.Show(c, got); e != api.OK {
				t.Fatalf("U11: Show(%v): %d", got, e)
			}
		}
	}
	if count[api.OK] < 2000 || count[api.ErrSyntax] < 2000 {
		t.Errorf("the test is one-sided: %v", count)
	}
}

func TestReadAnyBytes(t *testing.T) {
	for seed := range int64(3000) {
		rng := rand.New(rand.NewSource(seed))
		bytes := make([]byte, rng.Intn(12))
		for i := range bytes {
			bytes[i] = byte(rng.Intn(256))
		}
		if _, e, at := rup.Read(four(), string(bytes)); e != api.OK && (e != api.ErrSyntax || at > len(bytes)) {
			t.Fatalf("U8: Read(%q): %d, %d", bytes, e, at)
		}
	}
	long := strings.Repeat("4 d 1 2 3 0\n", 100000)
	if l, e, at := rup.Read(four(), long); len(l) != 100000 || e != api.OK || at != 0 {
		t.Errorf("U8: a long text: %d lines, %d, %d", len(l), e, at)
	}
	if l, e, at := rup.Read(four(), "5 1 0 "+strings.Repeat("9", 1000000)); len(l) > 0 || e != api.ErrSyntax || at != 6 {
		t.Errorf("U8: a long number: %d, %d", e, at)
	}
}
