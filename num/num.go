// Package num: exact rational numbers as texts: see DOC.md.
package num

import (
	"strings"

	"arbiter/api"
	"arbiter/rat"
)

// Canon tells the canonical text of a rational.
func Canon(text string) (string, api.Errno) {
	size := strings.TrimPrefix(text, "-")
	upper, lower, slash := strings.Cut(size, "/")
	if !slash {
		lower = "1"
	}
	if !digits(upper, lower) {
		return "", api.ErrText
	}
	below := rat.ParseNat(lower)
	if below.IsZero() {
		return "", api.ErrZero
	}
	return rat.Of(len(size) < len(text), rat.ParseNat(upper), below).Text(), api.OK
}

// Read tells the rational that a numeral or a decimal of the script's language is.
func Read(text string) (string, api.Errno) {
	whole, fraction, point := strings.Cut(text, ".")
	if !digits(whole) || whole[0] == '0' && len(whole) > 1 {
		return "", api.ErrText
	}
	if point && !digits(fraction) {
		return "", api.ErrText
	}
	below := rat.Word(10).Pow(len(fraction))
	return rat.Of(false, rat.ParseNat(whole+fraction), below).Text(), api.OK
}

// Decimal writes a rational as a decimal, if it is one.
func Decimal(a string) (string, api.Errno) {
	q, ok := parse(a)
	if !ok {
		return "", api.ErrText
	}
	rest, twos := q[0].Lower().Strip(rat.Word(2))
	rest, fives := rest.Strip(rat.Word(5))
	if !rest.IsOne() {
		return "", api.ErrText
	}
	places := max(twos, fives)
	missing := rat.Word(2).Pow(places - twos).Mul(rat.Word(5).Pow(places - fives))
	return sign(q[0]) + pointed(q[0].Upper().Mul(missing).Text(), places), api.OK
}

// Spell writes a rational as a term of the script's language.
func Spell(a string) (string, api.Errno) {
	q, ok := parse(a)
	if !ok {
		return "", api.ErrText
	}
	text := q[0].Upper().Text() + ".0"
	if !q[0].IsWhole() {
		text = "(/ " + text + " " + q[0].Lower().Text() + ".0)"
	}
	if q[0].Sign() < 0 {
		text = "(- " + text + ")"
	}
	return text, api.OK
}

// Add tells a + b.
func Add(a, b string) (string, api.Errno) {
	return reckon(rat.Rat.Add, a, b)
}

// Sub tells a - b.
func Sub(a, b string) (string, api.Errno) {
	return reckon(rat.Rat.Sub, a, b)
}

// Mul tells a times b.
func Mul(a, b string) (string, api.Errno) {
	return reckon(rat.Rat.Mul, a, b)
}

// Quo tells a divided by b.
func Quo(a, b string) (string, api.Errno) {
	q, ok := parse(a, b)
	if !ok {
		return "", api.ErrText
	}
	if q[1].Sign() == 0 {
		return "", api.ErrZero
	}
	return q[0].Quo(q[1]).Text(), api.OK
}

// Cmp tells whether a is below b (-1), b (0), or above it (1).
func Cmp(a, b string) (int, api.Errno) {
	q, ok := parse(a, b)
	if !ok {
		return 0, api.ErrText
	}
	return q[0].Cmp(q[1]), api.OK
}

// Floor tells the greatest whole number not above a.
func Floor(a string) (string, api.Errno) {
	q, ok := parse(a)
	if !ok {
		return "", api.ErrText
	}
	return q[0].Floor().Text(), api.OK
}

func reckon(step func(a, b rat.Rat) rat.Rat, texts ...string) (string, api.Errno) {
	q, ok := parse(texts...)
	if !ok {
		return "", api.ErrText
	}
	result := q[0]
	for _, next := range q[1:] {
		result = step(result, next)
	}
	return result.Text(), api.OK
}

// parse reads canonical texts, and tells whether all of them are.
func parse(texts ...string) ([]rat.Rat, bool) {
	read := make([]rat.Rat, len(texts))
	for i, text := range texts {
		q, ok := rat.Parse(text)
		if !ok {
			return nil, false
		}
		read[i] = q
	}
	return read, true
}

// digits tells whether each text is one digit or more, and nothing else.
func digits(texts ...string) bool {
	for _, text := range texts {
		for i := range len(text) {
			if text[i] < '0' || text[i] > '9' {
				return false
			}
		}
		if text == "" {
			return false
		}
	}
	return true
}

func sign(q rat.Rat) string {
	if q.Sign() < 0 {
		return "-"
	}
	return ""
}

// pointed sets the point ahead of the last places digits; a decimal has a digit on both sides of it.
func pointed(text string, places int) string {
	if places == 0 {
		return text + ".0"
	}
	if len(text) <= places {
		text = strings.Repeat("0", places+1-len(text)) + text
	}
	return text[:len(text)-places] + "." + text[len(text)-places:]
}
