package rat

import (
	"strconv"
	"strings"
)

// chunk is how many decimal digits surely fit into a word.
const chunk = 19

// ParseNat tells the number that decimal digits are. The text holds nothing but digits.
func ParseNat(text string) Nat {
	if len(text) <= chunk {
		return parseWord(text)
	}
	text = strings.TrimLeft(text, "0")
	return parseHalves(text, tens(len(text)))
}

// tens tells 10 to the power of 1, 2, 4, 8 .. chunks, as long as that is fewer than the given number of digits.
func tens(digits int) []Nat {
	var powers []Nat
	for size := chunk; size < digits; size *= 2 {
		if len(powers) == 0 {
			powers = append(powers, Word(10).Pow(chunk))
		} else {
			last := powers[len(powers)-1]
			powers = append(powers, last.Mul(last))
		}
	}
	return powers
}

// parseHalves reads the halves of a text apart, since long numbers are multiplied more quickly by one another than digit by digit.
func parseHalves(text string, powers []Nat) Nat {
	if len(text) <= chunk {
		return parseWord(text)
	}
	last := len(powers) - 1
	low := chunk << last
	if len(text) <= low {
		return parseHalves(text, powers[:last])
	}
	cut := len(text) - low
	high := parseHalves(text[:cut], powers[:last])
	return high.Mul(powers[last]).Add(parseHalves(text[cut:], powers[:last]))
}

func parseWord(text string) Nat {
	var n uint64
	for i := range len(text) {
		n = n*10 + uint64(text[i]-'0')
	}
	return Word(n)
}

// Text tells the decimal digits of a.
func (a Nat) Text() string {
	if a.long == nil {
		return strconv.FormatUint(a.word, 10)
	}
	// A digit to the base 2^64 is fewer than 20 decimal digits.
	powers := tens(20 * len(a.long))
	for powers[len(powers)-1].Cmp(a) > 0 {
		powers = powers[:len(powers)-1]
	}
	out := make([]byte, chunk<<len(powers))
	writeHalves(out, a, powers)
	return strings.TrimLeft(string(out), "0")
}

// writeHalves fills out, which has room for the square of the last power, with the digits of a and zeros ahead of them.
func writeHalves(out []byte, a Nat, powers []Nat) {
	if len(powers) == 0 {
		writeWord(out, a.word)
		return
	}
	last := len(powers) - 1
	high, low := a.DivMod(powers[last])
	half := len(out) / 2
	writeHalves(out[:half], high, powers[:last])
	writeHalves(out[half:], low, powers[:last])
}

func writeWord(out []byte, n uint64) {
	for i := len(out) - 1; i >= 0; i-- {
		out[i] = byte('0' + n%10)
		n /= 10
	}
}
