package words_test

import (
	"math"
	"slices"
	"testing"

	"arbiter/words"
)

func TestWords(t *testing.T) {
	r := words.New("c note\n one\ttwo c\r\nc x\rcat\nthree")
	for _, want := range []struct {
		word string
		at   int
	}{{"one", 8}, {"two", 12}, {"c", 16}, {"three", 27}, {"", 32}, {"", 32}} {
		if got := r.Word(); got != want.word || r.At() != want.at {
			t.Errorf("the word %q at %d, want %q at %d", got, r.At(), want.word, want.at)
		}
	}
}

func TestNumber(t *testing.T) {
	for _, x := range []struct {
		word string
		n    int
		ok   bool
	}{
		{"0", 0, true}, {"7", 7, true}, {"120", 120, true}, {"9223372036854775807", math.MaxInt, true}, {"9223372036854775808", math.MaxInt, true}, {"18446744073709551617", math.MaxInt, true},
		{"", 0, false}, {"00", 0, false}, {"01", 0, false}, {"-1", 0, false}, {"1x", 0, false}, {"/", 0, false}, {":", 0, false},
	} {
		if n, ok := words.Number(x.word); n != x.n || ok != x.ok {
			t.Errorf("Number(%q): %d, %v", x.word, n, ok)
		}
	}
}

func TestLists(t *testing.T) {
	for _, list := range [][]int{nil, {1}, {-3, 2, 2}} {
		text := string(words.AppendList(words.Append(nil, -7), list))
		r := words.New(text)
		if r.Word() != "-7" {
			t.Errorf("%q does not begin with -7", text)
		}
		if got, ok := r.Literals(3); !ok || !slices.Equal(got, list) {
			t.Errorf("Literals of %q: %v, %v", text, got, ok)
		}
	}
	for _, x := range []struct {
		text string
		at   int
	}{{"4 0", 0}, {"1 -4 0", 2}, {"1 -0", 2}, {"1 - 0", 2}, {"1", 1}, {"1 x 0", 2}} {
		r := words.New(x.text)
		if got, ok := r.Literals(3); ok || len(got) > 0 || r.At() != x.at {
			t.Errorf("Literals of %q: %v, %v at %d", x.text, got, ok, r.At())
		}
	}
}
