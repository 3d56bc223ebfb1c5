package cnf_test

import (
	"math/rand"
	"slices"
	"strconv"
	"strings"
	"testing"

	"arbiter/api"
	"arbiter/cnf"
)

func TestShow(t *testing.T) {
	for _, c := range []struct {
		in   api.Cnf
		want string
	}{
		{api.Cnf{Vars: 2, Clauses: [][]int{{1, -2}, {}}, Tops: []int{2}}, "p cnf 2 2\n1 -2 0\n0\na 2 0\n"},
		{api.Cnf{}, "p cnf 0 0\n"},
		{api.Cnf{Vars: 1000000, Tops: []int{-1000000, 7, 7}}, "p cnf 1000000 0\na -1000000 7 7 0\n"},
		{api.Cnf{Vars: 3, Clauses: [][]int{{3, 3, -3}, {1}, {3, 3, -3}}, Tops: []int{}}, "p cnf 3 3\n3 3 -3 0\n1 0\n3 3 -3 0\n"},
	} {
		if got, e := cnf.Show(c.in); e != api.OK || got != c.want {
			t.Errorf("F6: Show(%+v): %q, %d, want %q", c.in, got, e, c.want)
		}
	}
}

func TestRead(t *testing.T) {
	c := api.Cnf{Vars: 2, Clauses: [][]int{{1, -2}, {}}, Tops: []int{2}}
	for _, x := range []struct {
		text string
		want api.Cnf
	}{
		{"p cnf 2 2\n1 -2 0\n0\na 2 0\n", c},
		{"p cnf 2 2 1 -2 0 0 a 2 0", c},
		{"\t\r\n p\tcnf\r2\n2 1\n-2\r\n0 0\ta\n2\t0 ", c},
		{"c a note\np cnf 2 2 1\n-2\n0 0\nc 1 2 0\na 2 0 \nc", c},
		{"cp cnf\rp cnf 2 2\nc\nc\n\nccc 1\r1 -2 0\rcnf\n0 a 2\nc0\n0\nc a", c},
		{"p cnf 2 2 1 -2 0\nc x\rc y\r\nc z\t\n0 a 2 0\nc\r", c},
		{"p cnf 0 0", api.Cnf{}},
		{"p cnf 0 0 a 0", api.Cnf{}},
		{"p cnf 0 3 0 0 0", api.Cnf{Clauses: [][]int{{}, {}, {}}}},
		{"p cnf 1000000 1 -1000000 1000000 0", api.Cnf{Vars: 1000000, Clauses: [][]int{{-1000000, 1000000}}}},
		{"p cnf 3 0 a 3 -3 3 0", api.Cnf{Vars: 3, Tops: []int{3, -3, 3}}},
	} {
		if got, e, at := cnf.Read(x.text); e != api.OK || at != 0 || !sameCnf(got, x.want) {
			t.Errorf("F7: Read(%q): %+v, %d, %d, want %+v", x.text, got, e, at, x.want)
		}
	}
}

func TestReadErrors(t *testing.T) {
	for _, x := range []struct {
		text string
		at   int
	}{
		{"p cnf 1 1 2 0", 10}, {"p cnf 1 2 1 0", 13}, {"p cnf 1 1 1 0 x", 14}, {"p cnf 01 1", 6}, {"", 0}, {"p cnf 1 1 -0 0", 10}, {"p\ncnf 1 0", 9},
		{"p\rcnf 1 0", 9}, {" \n", 2}, {"c", 1}, {"p", 1}, {"p ", 2}, {"p cnf", 5}, {"p cnf 1", 7}, {"p cnf 1 1", 9}, {"p cnf 1 1 1", 11}, {"p cnf 1 1 1 ", 12},
		{"P cnf 1 0", 0}, {"pcnf 1 0", 0}, {" cnf 1 0", 1}, {"p CNF 1 0", 2}, {"p  dnf 1 0", 3}, {"p cnfx 1 0", 2}, {"p cn 1 0", 2},
		{"p cnf -1 0", 6}, {"p cnf x 0", 6}, {"p cnf 1000001 0", 6}, {"p cnf 9999999999999999999999 0", 6}, {"p cnf 18446744073709551617 0", 6}, {"p cnf 00 0", 6}, {"p cnf 1x 0", 6},
		{"p cnf 1 -1", 8}, {"p cnf 1 x", 8}, {"p cnf 1 01", 8}, {"p cnf 1 0x", 8}, {"p cnf 1 1.0", 8}, {"p cnf 1 0 0", 10}, {"p cnf 1 0 1 0", 10},
		{"p cnf 1 18446744073709551616 1 0", 32}, {"p cnf 1 18446744073709551617 1 0", 32}, {"p cnf 1 99999999999999999999 1 0 2", 33}, {"p cnf 1 9223372036854775808", 27},
		{"p cnf 1 1 a 0", 10}, {"p cnf 1 1 1 a 0", 12}, {"p cnf 1 1 +1 0", 10}, {"p cnf 1 1 01 0", 10}, {"p cnf 1 1 -01 0", 10}, {"p cnf 1 1 - 0", 10}, {"p cnf 1 1 --1 0", 10},
		{"p cnf 1 1 1- 0", 10}, {"p cnf 1 1 1-0", 10}, {"p cnf 1 1 00", 10}, {"p cnf 1 1 -2 0", 10}, {"p cnf 1 1 1 2 0", 12}, {"p cnf 0 1 1 0", 10},
		{"p cnf 1 1 18446744073709551617 0", 10}, {"p cnf 1 1 -18446744073709551617 0", 10}, {"p cnf 30 1 1: 0", 11}, {"p cnf 30 1 2/ 0", 11}, {"p cnf 1: 0", 6}, {"p cnf 1 1\v0", 8}, {"p cnf 1 1 1\x000", 10},
		{"p cnf 1 0 a 1", 13}, {"p cnf 1 0 a", 11}, {"p cnf 1 0 a 0 a 0", 14}, {"p cnf 1 0 a 2 0", 12}, {"p cnf 1 0 a 1 0 0", 16}, {"p cnf 1 0 aa 0", 10}, {"p cnf 1 0 A 1 0", 10}, {"p cnf 1 0 a1 0", 10},
		{"p cnf 1 1 1 c 0", 12}, {" c\np cnf 0 0", 1}, {"p cnf 1 1 1 0 c", 14}, {"p cnf 1 1 1 0\n c", 15}, {"p cnf 1 0 a c", 12}, {"p cnf 1 1\tc", 10},
		{"p cnf 1 1 1 0\nx\nc", 14}, {"\xff", 0}, {"p cnf 1 1 \xc2\xa01 0", 10},
	} {
		if got, e, at := cnf.Read(x.text); e != api.ErrSyntax || at != x.at || !sameCnf(got, api.Cnf{}) {
			t.Errorf("F7: Read(%q): %+v, %d, %d, want ErrSyntax at %d", x.text, got, e, at, x.at)
		}
	}
}

// plainWord is a word and where it begins.
type plainWord struct {
	text string
	at   int
}

// plainWords cuts a text up: comments are turned into blanks first.
func plainWords(text string) []plainWord {
	bytes := []byte(text)
	for i := 0; i < len(bytes); i++ {
		if text[i] == 'c' && (i == 0 || text[i-1] == 10 || text[i-1] == 13) {
			for i < len(bytes) && text[i] != 10 && text[i] != 13 {
				bytes[i] = ' '
				i++
			}
		}
	}
	var words []plainWord
	open := false
	for i, b := range bytes {
		white := strings.IndexByte("\t\n\r ", b) >= 0
		if !white && !open {
			words = append(words, plainWord{at: i})
		}
		if !white {
			words[len(words)-1].text += string(rune(b))
		}
		open = !white
	}
	return words
}

// plainNumber tells a number of at most nine digits; greater ones are none of a text here.
func plainNumber(word string) (int, bool) {
	n, err := strconv.Atoi(word)
	return n, err == nil && strconv.Itoa(n) == word && n >= 0
}

// plainRead goes by F7's words, from word to word.
func plainRead(text string) (api.Cnf, api.Errno, int) {
	words := plainWords(text)
	words = append(words, plainWord{"", len(text)})
	at := 0
	next := func() string {
		at++
		if at > len(words) {
			return ""
		}
		return words[at-1].text
	}
	fail := func() (api.Cnf, api.Errno, int) { return api.Cnf{}, api.ErrSyntax, words[at-1].at }
	if next() != "p" {
		return fail()
	}
	if next() != "cnf" {
		return fail()
	}
	vars, ok := plainNumber(next())
	if !ok || vars > 1000000 {
		return fail()
	}
	count, ok := plainNumber(next())
	if !ok {
		return fail()
	}
	c := api.Cnf{Vars: vars}
	lits := func() ([]int, bool) {
		var list []int
		for {
			word := next()
			if word == "0" {
				return list, true
			}
			n, ok := plainNumber(strings.TrimPrefix(word, "-"))
			if !ok || n < 1 || n > vars {
				return nil, false
			}
			if word[0] == '-' {
				n = -n
			}
			list = append(list, n)
		}
	}
	for range count {
		clause, ok := lits()
		if !ok {
			return fail()
		}
		c.Clauses = append(c.Clauses, clause)
	}
	switch next() {
	case "":
		return c, api.OK, 0
	case "a":
		if c.Tops, ok = lits(); !ok {
			return fail()
		}
		if next() == "" {
			return c, api.OK, 0
		}
	}
	return fail()
}

// someText is a text that may be one of clauses.
func someText(rng *rand.Rand) string {
	words := []string{"p", "cnf", strconv.Itoa(rng.Intn(4)), strconv.Itoa(rng.Intn(4))}
	for range rng.Intn(8) {
		words = append(words, []string{"0", "0", "1", "-1", "2", "-2", "3", "4", "-3", "a"}[rng.Intn(10)])
	}
	if rng.Intn(3) > 0 {
		words = append(words, "0")
	}
	if rng.Intn(4) == 0 {
		i := rng.Intn(len(words))
		words[i] = []string{"c", "cnf", "p", "-0", "00", "x", "", "1c", "--1", "-", "a0"}[rng.Intn(11)]
	}
	if rng.Intn(6) == 0 {
		i := rng.Intn(len(words))
		words = slices.Delete(words, i, i+1)
	}
	var text strings.Builder
	white := func() {
		text.WriteString([]string{" ", " ", " ", "\t", "\n", "\r\n", "\nc x 0\n", "\r \n", "\nc", " c"}[rng.Intn(10)])
	}
	if rng.Intn(3) == 0 {
		text.WriteString([]string{"c\n", " ", "c p cnf\r"}[rng.Intn(3)])
	}
	for _, w := range words {
		text.WriteString(w)
		white()
	}
	return text.String()
}

func TestReadByChance(t *testing.T) {
	fine := 0
	for seed := range int64(60000) {
		text := someText(rand.New(rand.NewSource(seed)))
		want, wantErr, wantAt := plainRead(text)
		got, e, at := cnf.Read(text)
		if !sameCnf(got, want) || e != wantErr || at != wantAt {
			t.Fatalf("F7: Read(%q): %+v, %d, %d, want %+v, %d, %d", text, got, e, at, want, wantErr, wantAt)
		}
		if e != api.OK {
			continue
		}
		fine++
		shown, e := cnf.Show(got)
		if e != api.OK {
			t.Fatalf("F10: Show of what %q is: %d", text, e)
		}
		if again, e, _ := cnf.Read(shown); e != api.OK || !sameCnf(again, got) {
			t.Fatalf("F10: %q is read as %+v, %d", shown, again, e)
		}
	}
	if fine < 1000 {
		t.Errorf("only %d of the texts are clauses", fine)
	}
}

func TestShowAndRead(t *testing.T) {
	for seed := range int64(500) {
		c := someCnf(rand.New(rand.NewSource(seed)))
		text, e := cnf.Show(c)
		if e != api.OK {
			t.Fatalf("F6: Show(%+v): %d", c, e)
		}
		if got, e, at := cnf.Read(text); e != api.OK || at != 0 || !sameCnf(got, c) {
			t.Fatalf("F10: %q is read as %+v, %d, %d", text, got, e, at)
		}
	}
}

// F1: texts of any bytes.
func TestAnyBytes(t *testing.T) {
	for seed := range int64(3000) {
		rng := rand.New(rand.NewSource(seed))
		bytes := make([]byte, rng.Intn(40))
		for i := range bytes {
			bytes[i] = byte(rng.Intn(256))
			if rng.Intn(3) > 0 {
				bytes[i] = "pcnf 01-a\n\r\t"[rng.Intn(12)]
			}
		}
		text := string(bytes)
		if rng.Intn(2) == 0 {
			text = "p cnf 1 1 " + text
		}
		_, wantErr, wantAt := plainRead(text)
		if _, e, at := cnf.Read(text); e != wantErr || at != wantAt {
			t.Fatalf("F7: Read(%q): %d, %d, want %d, %d", text, e, at, wantErr, wantAt)
		}
	}
}

// F7: there is no bound on C, nor on the length of a word, a comment, a text.
func TestLongTexts(t *testing.T) {
	digits := strings.Repeat("9", 100000)
	for _, x := range []struct {
		text string
		at   int
	}{
		{"p cnf 1 " + digits + " 1 0", 8 + len(digits) + 4},
		{"p cnf 1 " + digits + "x 1 0", 8},
		{"p cnf " + digits + " 1", 6},
		{"p cnf 1 1 -" + digits + " 0", 10},
		{"c" + strings.Repeat("c p cnf 0 0", 100000), 1 + 11*100000},
		{strings.Repeat(" \n", 100000) + "x", 200000},
	} {
		if _, e, at := cnf.Read(x.text); e != api.ErrSyntax || at != x.at {
			t.Errorf("F7: a text of %d bytes: %d, %d, want ErrSyntax at %d", len(x.text), e, at, x.at)
		}
	}
	text := "p cnf 1 300000 " + strings.Repeat("1\nc\n 0 ", 300000)
	if c, e, _ := cnf.Read(text); e != api.OK || len(c.Clauses) != 300000 {
		t.Errorf("F7: many clauses: %d of them, %d", len(c.Clauses), e)
	}
}
