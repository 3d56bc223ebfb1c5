// Package words reads and writes texts of words with white between them, as solvers exchange clauses and derivations: for cnf and rup.
package words

import (
	"math"
	"strconv"
)

// Reader goes through a text word by word.
type Reader struct {
	text string
	at   int // where the word stands that was met last, or the text's end
	next int // the byte behind that word
}

// New is a reader at the begin of a text.
func New(text string) *Reader {
	return &Reader{text: text}
}

// At tells where the word stands that was met last; behind the last one, the text's length.
func (r *Reader) At() int {
	return r.at
}

// Word goes on to the next word; at the text's end it is empty.
func (r *Reader) Word() string {
	r.at = r.skip(r.next)
	r.next = r.at
	for r.next < len(r.text) && !isWhite(r.text[r.next]) {
		r.next++
	}
	return r.text[r.at:r.next]
}

// skip tells where the white that begins there ends, comments included.
func (r *Reader) skip(at int) int {
	comment := false
	for ; at < len(r.text); at++ {
		b := r.text[at]
		switch {
		case isBreak(b):
			comment = false
		case b == 'c' && (at == 0 || isBreak(r.text[at-1])):
			comment = true
		case !comment && !isWhite(b):
			return at
		}
	}
	return at
}

func isBreak(b byte) bool {
	return b == '\n' || b == '\r'
}

func isWhite(b byte) bool {
	return isBreak(b) || b == '\t' || b == ' '
}

// Number tells the number that a word is, and whether it is one; what no text could be long enough for stands for all that is above it.
func Number(word string) (int, bool) {
	if word == "" || word[0] == '0' && len(word) > 1 {
		return 0, false
	}
	n := 0
	for i := range len(word) {
		digit := int(word[i]) - '0'
		if digit < 0 || digit > 9 {
			return 0, false
		}
		if n > (math.MaxInt-digit)/10 {
			n = math.MaxInt
			continue
		}
		n = 10*n + digit
	}
	return n, true
}

// Literals reads literals of the variables 1 to vars up to the 0 that ends them, and tells whether they are such.
func (r *Reader) Literals(vars int) ([]int, bool) {
	var list []int
	for {
		word := r.Word()
		sign := 1
		if word != "" && word[0] == '-' {
			word = word[1:]
			sign = -1
		}
		n, ok := Number(word)
		if !ok || n > vars || n == 0 && sign < 0 {
			return nil, false
		}
		if n == 0 {
			return list, true
		}
		list = append(list, sign*n)
	}
}

// Append writes a number and a blank behind it.
func Append(out []byte, n int) []byte {
	return append(strconv.AppendInt(out, int64(n), 10), ' ')
}

// AppendList writes numbers and the 0 that ends them, a blank behind each but the 0.
func AppendList(out []byte, list []int) []byte {
	for _, n := range list {
		out = Append(out, n)
	}
	return append(out, '0')
}
