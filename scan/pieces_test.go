package scan_test

import (
	"math/rand"
	"strings"
	"testing"

	"arbiter/api"
	"arbiter/scan"
)

func TestPiecesExample(t *testing.T) {
	s := scan.New()
	for _, c := range []struct {
		piece string
		want  []api.Token
	}{
		{"(ab", []api.Token{token(1, 0, 1, "(")}},
		{"c |", []api.Token{token(3, 1, 4, "abc")}},
		{"d||e|", []api.Token{token(3, 5, 8, "d"), token(3, 8, 11, "e")}},
	} {
		if got := s.Feed(c.piece); !same(got, c.want) {
			t.Fatalf("S3: Feed(%q) = %#v, want %#v", c.piece, got, c.want)
		}
	}
	if l, e, place := s.End(); len(l) != 0 || e != api.OK || place != 0 {
		t.Fatalf("S3: End() = %#v, %d, %d", l, e, place)
	}
}

// Every short text, cut behind each of its bytes, and at one place.
func TestPiecesOfShortTexts(t *testing.T) {
	look := func(text string) {
		var all []int
		for cut := range len(text) + 1 {
			feed(t, text, cut)
			all = append(all, cut)
		}
		feed(t, text, all...)
	}
	everyText("(a\"|:#b1.;\n\xC3\xA9\\' ", 3, look)
	everyText("\"|a\xE2\x82\xAC", 5, look)
}

func TestPiecesOfLongTexts(t *testing.T) {
	rng := rand.New(rand.NewSource(3))
	parts := []string{"(", ")", "abc", "let", "|a b|", "||", "0", "12", "1.50", "#xAb", "#b01", "\"\"", "\"a\"\"b\"", "\"\u20ac\U00010000\"", ":named", " ", "\n", "; say \u00e9\r", "<=", "x'", "00", "1.", "\xFF", "|\\", "\"\xE2\x82"}
	for range 3000 {
		var b strings.Builder
		for range 1 + rng.Intn(12) {
			b.WriteString(parts[rng.Intn(len(parts)-rng.Intn(2)*6)])
			if rng.Intn(2) == 0 {
				b.WriteByte(' ')
			}
		}
		text := b.String()
		want, f, at := plain(text)
		if l, e, place := scan.Tokens(text); !same(l, want) || e != f || place != at {
			t.Fatalf("S1: Tokens(%q) = %#v; %d at %d; want %#v; %d at %d", text, l, e, place, want, f, at)
		}
		var cuts []int
		for cut := range len(text) {
			if rng.Intn(4) == 0 {
				cuts = append(cuts, cut)
			}
			if rng.Intn(12) == 0 {
				cuts = append(cuts, cut)
			}
		}
		feed(t, text, cuts...)
	}
}

func TestCertain(t *testing.T) {
	for _, c := range []struct {
		pieces []string
		told   []int // how many tokens each piece tells
	}{
		{[]string{"(", ")"}, []int{1, 1}},
		{[]string{"|a", "|", "b", " "}, []int{0, 1, 0, 1}},
		{[]string{"\"a", "\"", "\"", "\"", ")"}, []int{0, 0, 0, 0, 2}},
		{[]string{"x", "'", "y "}, []int{0, 1, 0}},
		{[]string{"12", "x", " y "}, []int{0, 0, 0}},
		{[]string{"12", "\xC3", "\xA9 y "}, []int{0, 1, 0}},
		{[]string{"12", ".", "5", ";"}, []int{0, 0, 0, 1}},
		{[]string{"1", "."}, []int{0, 0}},
		{[]string{"1", ".", "["}, []int{0, 0, 0}},
		{[]string{"#", "x", "A", "\""}, []int{0, 0, 0, 1}},
		{[]string{":", "a", ":", "b", "("}, []int{0, 0, 1, 0, 2}},
		{[]string{"a\x00b c "}, []int{1}},
		{[]string{"a b \"c\" 1", "a"}, []int{3, 0}},
		{[]string{"\"a\"", "'"}, []int{0, 1}},
		{[]string{"", "a", "", " ", ""}, []int{0, 0, 0, 1, 0}},
	} {
		s := scan.New()
		for i, piece := range c.pieces {
			if l := s.Feed(piece); len(l) != c.told[i] {
				t.Errorf("S3: %q: piece %d tells %#v, want %d of them", c.pieces, i, l, c.told[i])
			}
		}
	}
}

func TestEnd(t *testing.T) {
	for _, c := range []struct {
		text  string
		last  int
		e     api.Errno
		place int
	}{
		{"", 0, api.OK, 0}, {"a", 1, api.OK, 0}, {"a ", 0, api.OK, 0}, {"\"a\"", 1, api.OK, 0}, {"|a|", 0, api.OK, 0}, {"12", 1, api.OK, 0}, {"0", 1, api.OK, 0}, {"1.5", 1, api.OK, 0}, {"#xa", 1, api.OK, 0}, {":k", 1, api.OK, 0}, {";c", 0, api.OK, 0},
		{"b 1.", 0, api.ErrNumber, 4}, {"b #", 0, api.ErrNumber, 3}, {"b #x", 0, api.ErrNumber, 4}, {"b :", 0, api.ErrKeyword, 3}, {"b \"a", 0, api.ErrString, 2}, {"b |a", 0, api.ErrQuoted, 2}, {"b \"\xE2\x82", 0, api.ErrUtf8, 3}, {";\xC3", 0, api.ErrUtf8, 1},
		{"b ' ", 0, api.ErrByte, 2}, {"b 00", 0, api.ErrGlued, 3},
	} {
		s := scan.New()
		s.Feed(c.text)
		l, e, place := s.End()
		if len(l) != c.last || e != c.e || place != c.place {
			t.Errorf("S3: End behind %q: %#v, %d at %d", c.text, l, e, place)
		}
		for range 2 {
			if l := s.Feed(" x \" ' "); len(l) != 0 {
				t.Errorf("S3: Feed behind End of %q tells %#v", c.text, l)
			}
			if l, e, place := s.End(); len(l) != 0 || e != c.e || place != c.place {
				t.Errorf("S3: a later End of %q: %#v, %d at %d", c.text, l, e, place)
			}
		}
	}
}

func TestFeedBehindError(t *testing.T) {
	s := scan.New()
	s.Feed("a '")
	for _, piece := range []string{" b ", "\xFF", "(", "00 "} {
		if l := s.Feed(piece); len(l) != 0 {
			t.Errorf("S3: behind an error Feed(%q) tells %#v", piece, l)
		}
	}
	if l, e, place := s.End(); len(l) != 0 || e != api.ErrByte || place != 2 {
		t.Errorf("S3: %#v, %d at %d, want ErrByte at 2", l, e, place)
	}
}

func TestTwoScanners(t *testing.T) {
	a, b := scan.New(), scan.New()
	a.Feed("\"x")
	if l := b.Feed("(y "); !same(l, []api.Token{token(1, 0, 1, "("), token(3, 1, 2, "y")}) {
		t.Errorf("P0.5: the second scanner tells %#v", l)
	}
	b.Feed("'")
	if l := a.Feed("z\" "); !same(l, []api.Token{token(9, 0, 4, "xz")}) {
		t.Errorf("P0.5: the first scanner tells %#v", l)
	}
	if _, e, _ := a.End(); e != api.OK {
		t.Errorf("P0.5: the first scanner has the error %d", e)
	}
}

// What is handed out may be written over, up to its spare room, and nobody sees it.
func TestNewMemory(t *testing.T) {
	spoil := func(l []api.Token) {
		l = l[:cap(l)]
		for i := range l {
			l[i] = token(99, -1, -1, "spoilt")
		}
	}
	text := "(a b c d e |f| 1 2 3 \"g\" "
	want, _, _ := scan.Tokens(text)
	first, _, _ := scan.Tokens(text)
	spoil(first)
	if l, _, _ := scan.Tokens(text); !same(l, want) {
		t.Errorf("S7: Tokens tells %#v behind an answer that was written over", l)
	}
	s := scan.New()
	var told []api.Token
	for i := range len(text) {
		l := s.Feed(text[i : i+1])
		told = append(told, l...)
		spoil(l)
	}
	if !same(told, want) {
		t.Errorf("S7: %#v, want %#v", told, want)
	}
	s = scan.New()
	one := s.Feed("a b c ")
	held := append([]api.Token(nil), one...)
	s.Feed("d e f ")
	s.Feed("g")
	s.End()
	if !same(one, held) {
		t.Errorf("S7: an answer changed to %#v", one)
	}
}
