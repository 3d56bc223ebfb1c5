package num_test

import (
	"math/big"
	"strings"
	"testing"

	"arbiter/api"
	"arbiter/num"
)

// row is a call with two texts (of a call with one text the second is not used) and its answer.
type row struct {
	call, a, b, want string
	err              api.Errno
}

// ask makes the call of that name; of Cmp the answer is its sign, written out.
func ask(call, a, b string) (string, api.Errno) {
	switch call {
	case "Canon":
		return num.Canon(a)
	case "Read":
		return num.Read(a)
	case "Decimal":
		return num.Decimal(a)
	case "Spell":
		return num.Spell(a)
	case "Floor":
		return num.Floor(a)
	case "Add":
		return num.Add(a, b)
	case "Sub":
		return num.Sub(a, b)
	case "Mul":
		return num.Mul(a, b)
	case "Quo":
		return num.Quo(a, b)
	case "Simplest":
		return num.Simplest(a, b)
	}
	n, err := num.Cmp(a, b)
	if err != api.OK && n == 0 {
		return "", err
	}
	return map[int]string{-1: "below", 0: "same", 1: "above"}[n], err
}

var oneText = []string{"Decimal", "Spell", "Floor"}
var twoTexts = []string{"Add", "Sub", "Mul", "Quo", "Cmp", "Simplest"}
var allCalls = append(append([]string{"Canon", "Read"}, oneText...), twoTexts...)

func check(t *testing.T, promise string, rows ...row) {
	t.Helper()
	for _, r := range rows {
		if got, err := ask(r.call, r.a, r.b); got != r.want || err != r.err {
			t.Errorf("%s: %s(%.60q, %.60q) = %.60q, %d, want %.60q, %d", promise, r.call, r.a, r.b, got, err, r.want, r.err)
		}
	}
}

// dice is a source of numbers that are the same in each run.
type dice uint64

func (d *dice) upTo(n int) int {
	*d = *d*6364136223846793005 + 1442695040888963407
	return int(uint64(*d>>33) % uint64(n))
}

func (d *dice) digits(n int) string {
	out := make([]byte, n)
	for i := range out {
		out[i] = byte('0' + d.upTo(10))
	}
	return string(out)
}

// rational is one whose parts have at most that many digits.
func (d *dice) rational(digits int) *big.Rat {
	n, _ := new(big.Int).SetString(d.digits(1+d.upTo(digits)), 10)
	below, _ := new(big.Int).SetString("1"+d.digits(d.upTo(digits)), 10)
	q := new(big.Rat).SetFrac(n, below)
	switch d.upTo(3) {
	case 0:
		q.SetInt(n)
	case 1:
		q.Neg(q)
	}
	return q
}

func text(q *big.Rat) string {
	return strings.TrimSuffix(q.String(), "/1")
}

// notCanonical are texts that no call takes for a rational, but Canon some of them.
var notCanonical = []string{
	"-0", "00", "007", "+1", "4/2", "3/1", "0/5", "0/1", "1/0", "0/0", "1/-2", "1.5", "1.0", "1e3", " ", " 1", "1 ", "1 /2", "1/ 2", "-", "--1", "-/", "/", "/2", "1/", "1/2/3", "1//2",
	"-00", "-01", "01", "1/02", "01/2", "-4/2", "-0/3", "6/4", "1/00", "-1/1", "2/4", "x", "0x1", "1_000", "1,5", "½", "１", "1\x00", "\x00", "\xff", "1\n", "\t1", "Inf", "NaN", "- 1", "1-", "5-3", "-1/-2", "−1", "1/2 ", "1:2", "1;2", "1.", "10/5", "100/10",
	"18446744073709551616/2", "36893488147419103232/18446744073709551616", "340282366920938463463374607431768211456/6",
}

func TestExamples(t *testing.T) {
	check(t, "chapter 1, examples",
		row{"Add", "1/2", "1/3", "5/6", api.OK},
		row{"Sub", "1/2", "1/2", "0", api.OK},
		row{"Mul", "-2/3", "3/2", "-1", api.OK},
		row{"Quo", "-1", "1/3", "-3", api.OK},
		row{"Quo", "1", "0", "", api.ErrZero},
		row{"Quo", "2/4", "0", "", api.ErrText},
		row{"Cmp", "-1/2", "-1/3", "below", api.OK},
		row{"Floor", "7/2", "", "3", api.OK},
		row{"Read", "0012", "", "", api.ErrText},
		row{"Canon", "-06/4", "", "-3/2", api.OK},
		row{"Canon", "1/00", "", "", api.ErrZero},
		row{"Decimal", "-7/20", "", "-0.35", api.OK},
		row{"Simplest", "1", "1", "", api.ErrOrder},
		row{"Simplest", "3", "22/7", "25/8", api.OK},
		row{"Simplest", "1/2", "", "1", api.OK},
	)
}

// N1, P0.1: no text makes a call panic, and a call answers the same when it is made again.
func TestAnyText(t *testing.T) {
	texts := append([]string{"", "0", "-3", "5/7", "-12/5", strings.Repeat("-", 999), strings.Repeat("/", 999), strings.Repeat(".", 999), strings.Repeat("0", 9999)}, notCanonical...)
	for b := range 256 {
		texts = append(texts, string([]byte{byte(b)}), string([]byte{'1', byte(b)}), string([]byte{byte(b), '2'}), string([]byte{'3', byte(b), '4'}))
	}
	for _, call := range allCalls {
		for i, a := range texts {
			b := texts[(i*7+3)%len(texts)]
			got, err := ask(call, a, b)
			again, errAgain := ask(call, a, b)
			if got != again || err != errAgain {
				t.Errorf("N1: %s(%q, %q) = %q, %d and then %q, %d", call, a, b, got, err, again, errAgain)
			}
			if err != api.OK && got != "" {
				t.Errorf("P0.2: %s(%q, %q) = %q beside error %d", call, a, b, got, err)
			}
		}
	}
}

func TestCanon(t *testing.T) {
	long := strings.Repeat("9", 300)
	check(t, "N2",
		row{"Canon", "4/2", "", "2", api.OK}, row{"Canon", "-0", "", "0", api.OK}, row{"Canon", "-6/04", "", "-3/2", api.OK},
		row{"Canon", "0", "", "0", api.OK}, row{"Canon", "007", "", "7", api.OK}, row{"Canon", "0/5", "", "0", api.OK}, row{"Canon", "-0/7", "", "0", api.OK},
		row{"Canon", "-000", "", "0", api.OK}, row{"Canon", "5/1", "", "5", api.OK}, row{"Canon", "-5/5", "", "-1", api.OK}, row{"Canon", "22/7", "", "22/7", api.OK},
		row{"Canon", "0001/0002", "", "1/2", api.OK}, row{"Canon", "100/10", "", "10", api.OK}, row{"Canon", "-1/1000000000000000000000000", "", "-1/1000000000000000000000000", api.OK},
		row{"Canon", strings.Repeat("0", 5000) + "12/" + strings.Repeat("0", 5000) + "8", "", "3/2", api.OK},
		row{"Canon", long + "/" + long, "", "1", api.OK}, row{"Canon", "-" + long + "0/" + long, "", "-10", api.OK}, row{"Canon", long, "", long, api.OK},
		row{"Canon", "1/0", "", "", api.ErrZero}, row{"Canon", "0/0", "", "", api.ErrZero}, row{"Canon", "-3/000", "", "", api.ErrZero}, row{"Canon", "-0/00", "", "", api.ErrZero},
	)
	for _, bad := range []string{"", "-", "+1", "1/-2", "1.5", "/2", "1/", "--1", "/", "-/", "-/2", "1/2/3", "1//2", " 1", "1 ", "1 /2", "1/ 2", "- 1", "x", "x/0", "1/0x", "/0", "-/0", "1/0/0", "1/0 ", "1:2", "1\x00", "１", "1e3", "-1/-1", "1/+2", "1-", "\n1", "1/2\n", "0x10", "1_0"} {
		check(t, "N2", row{"Canon", bad, "", "", api.ErrText})
	}
	for b := range 256 {
		if b >= '0' && b <= '9' {
			continue
		}
		c := string([]byte{byte(b)})
		check(t, "N2", row{"Canon", c, "", "", api.ErrText}, row{"Canon", "1" + c, "", "", api.ErrText}, row{"Canon", "1/" + c, "", "", api.ErrText}, row{"Canon", "1/2" + c, "", "", api.ErrText})
		if b != '-' {
			check(t, "N2", row{"Canon", c + "1", "", "", api.ErrText})
		}
		if b != '/' {
			check(t, "N2", row{"Canon", "1" + c + "2", "", "", api.ErrText})
		}
	}
}

// N2: with zeros ahead and a common factor, the rational is the same.
func TestCanonOfAll(t *testing.T) {
	var d dice = 1
	for range 2000 {
		q := d.rational(1 + d.upTo(60))
		factor, _ := new(big.Int).SetString("1"+d.digits(d.upTo(40)), 10)
		n, below := new(big.Int).Mul(q.Num(), factor), new(big.Int).Mul(q.Denom(), factor)
		loose := strings.Repeat("0", d.upTo(3)) + new(big.Int).Abs(n).String() + "/" + strings.Repeat("0", d.upTo(3)) + below.String()
		if n.Sign() < 0 {
			loose = "-" + loose
		}
		check(t, "N2", row{"Canon", loose, "", text(q), api.OK}, row{"Canon", text(q), "", text(q), api.OK})
	}
}

func TestRead(t *testing.T) {
	check(t, "N3",
		row{"Read", "1.50", "", "3/2", api.OK}, row{"Read", "0.000", "", "0", api.OK}, row{"Read", "12", "", "12", api.OK}, row{"Read", "0", "", "0", api.OK}, row{"Read", "0.0", "", "0", api.OK},
		row{"Read", "7.0", "", "7", api.OK}, row{"Read", "10", "", "10", api.OK}, row{"Read", "0.125", "", "1/8", api.OK}, row{"Read", "100.001", "", "100001/1000", api.OK}, row{"Read", "0.30", "", "3/10", api.OK},
		row{"Read", "0.1000000000000000000000001", "", "1000000000000000000000001/10000000000000000000000000", api.OK},
		row{"Read", "340282366920938463463374607431768211456", "", "340282366920938463463374607431768211456", api.OK},
		row{"Read", "9." + strings.Repeat("0", 4000), "", "9", api.OK},
		row{"Read", "0." + strings.Repeat("0", 3999) + "5", "", "1/2" + strings.Repeat("0", 3999), api.OK},
	)
	for _, bad := range []string{"", "007", "00", "1.", ".5", "-1", "1e3", ".", "1.2.3", "00.5", "01.5", "1/2", "+1", " 1", "1 ", "1. 5", "-0", "-1.5", "1..2", "1.5.", "1.-5", "1.+5", "1.5e1", "1,5", "0012", "0x1", "#b1", "#x1", "１", "1\x00", "1.5\n", "5/1", "0/1", "1.5/2"} {
		check(t, "N3", row{"Read", bad, "", "", api.ErrText})
	}
	for b := range 256 {
		if b >= '0' && b <= '9' || b == '.' {
			continue
		}
		c := string([]byte{byte(b)})
		check(t, "N3", row{"Read", c, "", "", api.ErrText}, row{"Read", "1" + c, "", "", api.ErrText}, row{"Read", c + "1", "", "", api.ErrText}, row{"Read", "1" + c + "2", "", "", api.ErrText}, row{"Read", "1.2" + c, "", "", api.ErrText}, row{"Read", "1." + c + "2", "", "", api.ErrText})
	}
	var d dice = 2
	for range 1000 {
		literal := strings.TrimLeft(d.digits(d.upTo(30)), "0")
		if literal == "" {
			literal = "0"
		}
		if d.upTo(4) > 0 {
			literal += "." + d.digits(1+d.upTo(30))
		}
		q, _ := new(big.Rat).SetString(literal)
		check(t, "N3", row{"Read", literal, "", text(q), api.OK})
	}
}

func TestSpell(t *testing.T) {
	long := "12345678901234567890123456789012345678901"
	check(t, "N4",
		row{"Spell", "12", "", "12.0", api.OK}, row{"Spell", "0", "", "0.0", api.OK}, row{"Spell", "5/7", "", "(/ 5.0 7.0)", api.OK}, row{"Spell", "-5/7", "", "(- (/ 5.0 7.0))", api.OK}, row{"Spell", "-3", "", "(- 3.0)", api.OK},
		row{"Spell", "1/2", "", "(/ 1.0 2.0)", api.OK}, row{"Spell", "-1", "", "(- 1.0)", api.OK}, row{"Spell", "100", "", "100.0", api.OK}, row{"Spell", "10/3", "", "(/ 10.0 3.0)", api.OK},
		row{"Spell", long, "", long + ".0", api.OK}, row{"Spell", "-" + long, "", "(- " + long + ".0)", api.OK}, row{"Spell", "-2/" + long, "", "(- (/ 2.0 " + long + ".0))", api.OK}, row{"Spell", long + "/2", "", "(/ " + long + ".0 2.0)", api.OK},
	)
}

func TestDecimal(t *testing.T) {
	check(t, "N10",
		row{"Decimal", "3/2", "", "1.5", api.OK}, row{"Decimal", "-1/8", "", "-0.125", api.OK}, row{"Decimal", "12", "", "12.0", api.OK}, row{"Decimal", "0", "", "0.0", api.OK}, row{"Decimal", "-7", "", "-7.0", api.OK},
		row{"Decimal", "100", "", "100.0", api.OK}, row{"Decimal", "1/5", "", "0.2", api.OK}, row{"Decimal", "-1/10", "", "-0.1", api.OK}, row{"Decimal", "1/1000000", "", "0.000001", api.OK}, row{"Decimal", "10001/100", "", "100.01", api.OK},
		row{"Decimal", "1/25", "", "0.04", api.OK}, row{"Decimal", "999/40", "", "24.975", api.OK}, row{"Decimal", "1/1250", "", "0.0008", api.OK}, row{"Decimal", "1/1024", "", "0.0009765625", api.OK}, row{"Decimal", "3/125", "", "0.024", api.OK},
		row{"Decimal", "1/3", "", "", api.ErrText}, row{"Decimal", "1/30", "", "", api.ErrText}, row{"Decimal", "-22/7", "", "", api.ErrText}, row{"Decimal", "1/6", "", "", api.ErrText}, row{"Decimal", "1/15", "", "", api.ErrText}, row{"Decimal", "7/3000000", "", "", api.ErrText}, row{"Decimal", "1/18446744073709551617", "", "", api.ErrText},
		row{"Decimal", "1/18446744073709551616", "", "0.0000000000000000000542101086242752217003726400434970855712890625", api.OK},
		row{"Decimal", "1/1" + strings.Repeat("0", 3000), "", "0." + strings.Repeat("0", 2999) + "1", api.OK},
	)
	var d dice = 3
	for range 1000 {
		digits := strings.TrimRight(d.digits(d.upTo(40)), "0")
		whole := strings.TrimLeft(d.digits(d.upTo(40)), "0")
		if digits == "" {
			digits = "0"
		}
		if whole == "" {
			whole = "0"
		}
		q, _ := new(big.Rat).SetString(whole + "." + digits)
		check(t, "N10", row{"Decimal", text(q), "", whole + "." + digits, api.OK})
		if q.Sign() > 0 {
			check(t, "N10", row{"Decimal", "-" + text(q), "", "-" + whole + "." + digits, api.OK})
		}
		if q.Quo(q, big.NewRat([]int64{3, 7, 11, 13}[d.upTo(4)]*1000003, 1)); !q.IsInt() && decimalOf(q) == "" {
			check(t, "N10", row{"Decimal", text(q), "", "", api.ErrText})
		}
	}
}

// decimalOf tells whether only 2 and 5 divide the denominator, by dividing.
func decimalOf(q *big.Rat) string {
	rest := new(big.Int).Set(q.Denom())
	for _, p := range []int64{2, 5} {
		for new(big.Int).Mod(rest, big.NewInt(p)).Sign() == 0 {
			rest.Div(rest, big.NewInt(p))
		}
	}
	if rest.Cmp(big.NewInt(1)) == 0 {
		return "a decimal"
	}
	return ""
}

// N4 to N10: an argument that is no canonical text, in each place.
func TestWrongTexts(t *testing.T) {
	for _, bad := range notCanonical {
		for _, call := range oneText {
			check(t, "ErrText", row{call, bad, "", "", api.ErrText})
		}
		for _, call := range twoTexts {
			check(t, "ErrText", row{call, bad, "0", "", api.ErrText}, row{call, "0", bad, "", api.ErrText}, row{call, bad, bad, "", api.ErrText}, row{call, "-1/2", bad, "", api.ErrText}, row{call, bad, "7", "", api.ErrText})
		}
		check(t, "N9", row{"Simplest", bad, "", "", api.ErrText}, row{"Simplest", "", bad, "", api.ErrText})
	}
	for _, call := range append(oneText, twoTexts[:5]...) {
		check(t, "ErrText", row{call, "", "1", "", api.ErrText})
	}
	for _, call := range twoTexts[:5] {
		check(t, "ErrText", row{call, "1", "", "", api.ErrText})
	}
	check(t, "N6", row{"Quo", "1", "0", "", api.ErrZero}, row{"Quo", "0", "0", "", api.ErrZero}, row{"Quo", "-5/3", "0", "", api.ErrZero}, row{"Quo", "01", "0", "", api.ErrText}, row{"Quo", "1", "-0", "", api.ErrText}, row{"Quo", "1", "0/5", "", api.ErrText})
	check(t, "N9", row{"Simplest", "2", "1", "", api.ErrOrder}, row{"Simplest", "0", "0", "", api.ErrOrder}, row{"Simplest", "-1/3", "-1/2", "", api.ErrOrder}, row{"Simplest", "5/7", "5/7", "", api.ErrOrder}, row{"Simplest", "3", "01", "", api.ErrText}, row{"Simplest", "4/2", "1", "", api.ErrText})
}

// against holds all calls on a and b against the reckoning of the library's own rationals.
func against(t *testing.T, a, b *big.Rat) {
	t.Helper()
	x, y := text(a), text(b)
	check(t, "N5", row{"Add", x, y, text(new(big.Rat).Add(a, b)), api.OK}, row{"Sub", x, y, text(new(big.Rat).Sub(a, b)), api.OK}, row{"Mul", x, y, text(new(big.Rat).Mul(a, b)), api.OK})
	if b.Sign() == 0 {
		check(t, "N6", row{"Quo", x, y, "", api.ErrZero})
	} else {
		check(t, "N6", row{"Quo", x, y, text(new(big.Rat).Quo(a, b)), api.OK})
	}
	check(t, "N7", row{"Cmp", x, y, []string{"below", "same", "above"}[a.Cmp(b)+1], api.OK})
	floor := new(big.Int).Div(a.Num(), a.Denom())
	check(t, "N8", row{"Floor", x, "", floor.String(), api.OK})
}

func TestReckonSmall(t *testing.T) {
	var all []*big.Rat
	for below := int64(1); below <= 6; below++ {
		for n := int64(-7); n <= 7; n++ {
			all = append(all, big.NewRat(n, below))
		}
	}
	for _, a := range all {
		for _, b := range all {
			against(t, a, b)
		}
	}
}

// P0.6: nothing wraps or is rounded where words, floats and powers of ten end.
func TestReckonEdges(t *testing.T) {
	var edges []*big.Int
	for _, bits := range []uint{15, 31, 32, 53, 62, 63, 64, 65, 96, 127, 128, 192} {
		edges = append(edges, new(big.Int).Lsh(big.NewInt(1), bits))
	}
	for _, tens := range []int64{9, 16, 18, 19, 20, 27, 36, 38} {
		edges = append(edges, new(big.Int).Exp(big.NewInt(10), big.NewInt(tens), nil))
	}
	var all []*big.Rat
	for i, e := range edges {
		for step := int64(-1); step <= 1; step++ {
			n := new(big.Int).Add(e, big.NewInt(step))
			all = append(all, new(big.Rat).SetInt(n), new(big.Rat).SetFrac(new(big.Int).Neg(n), edges[(i*5+3)%len(edges)]), new(big.Rat).SetFrac(big.NewInt(step), n))
		}
	}
	for _, a := range all {
		for _, b := range all {
			against(t, a, b)
		}
	}
}

func TestReckonLong(t *testing.T) {
	var d dice = 4
	for range 1500 {
		against(t, d.rational(1+d.upTo(25)), d.rational(1+d.upTo(25)))
		against(t, d.rational(1+d.upTo(200)), d.rational(1+d.upTo(200)))
	}
	for range 4 {
		a, b := d.rational(6000), d.rational(6000)
		against(t, a, b)
		against(t, a, new(big.Rat).Quo(b, a))
	}
	nines := strings.Repeat("9", 100000)
	check(t, "N5", row{"Add", nines, "1", "1" + strings.Repeat("0", 100000), api.OK}, row{"Sub", "-" + nines, "-" + nines, "0", api.OK})
	check(t, "N7", row{"Cmp", nines, nines + "/2", "above", api.OK}, row{"Cmp", nines, nines, "same", api.OK})
}

func TestSimplest(t *testing.T) {
	check(t, "N9",
		row{"Simplest", "", "", "0", api.OK}, row{"Simplest", "1/3", "1/2", "2/5", api.OK}, row{"Simplest", "2", "", "3", api.OK}, row{"Simplest", "-7/2", "-1/3", "-1", api.OK}, row{"Simplest", "0", "1/100", "1/101", api.OK},
		row{"Simplest", "-1", "", "0", api.OK}, row{"Simplest", "0", "", "1", api.OK}, row{"Simplest", "", "0", "-1", api.OK}, row{"Simplest", "", "1", "0", api.OK}, row{"Simplest", "", "-5/2", "-3", api.OK}, row{"Simplest", "", "-2", "-3", api.OK}, row{"Simplest", "5/2", "", "3", api.OK},
		row{"Simplest", "-1/2", "1/2", "0", api.OK}, row{"Simplest", "-1/100", "0", "-1/101", api.OK}, row{"Simplest", "2", "9", "3", api.OK}, row{"Simplest", "-9", "-2", "-3", api.OK}, row{"Simplest", "2", "3", "5/2", api.OK}, row{"Simplest", "-1/2", "-1/3", "-2/5", api.OK},
		row{"Simplest", "1000000000000000000000000", "", "1000000000000000000000001", api.OK}, row{"Simplest", "0", "1/1" + strings.Repeat("0", 2000), "1/1" + strings.Repeat("0", 1999) + "1", api.OK},
	)
	var all []*big.Rat
	for below := int64(1); below <= 5; below++ {
		for n := int64(-9); n <= 9; n++ {
			all = append(all, big.NewRat(n, below))
		}
	}
	for _, lo := range all {
		check(t, "N9", row{"Simplest", text(lo), "", simplest(lo, nil), api.OK}, row{"Simplest", "", text(lo), simplest(nil, lo), api.OK})
		for _, hi := range all {
			if lo.Cmp(hi) < 0 {
				check(t, "N9", row{"Simplest", text(lo), text(hi), simplest(lo, hi), api.OK})
			} else {
				check(t, "N9", row{"Simplest", text(lo), text(hi), "", api.ErrOrder})
			}
		}
	}
}

// simplest tries all denominators, and numerators from 0 away.
func simplest(lo, hi *big.Rat) string {
	for below := int64(1); ; below++ {
		for n := int64(0); n <= 20*below; n++ {
			for _, x := range []*big.Rat{big.NewRat(n, below), big.NewRat(-n, below)} {
				if (lo == nil || lo.Cmp(x) < 0) && (hi == nil || x.Cmp(hi) < 0) {
					return text(x)
				}
			}
		}
	}
}

// N9: of long bounds the answer lies between, and so near to q no other number is simpler than q.
func TestSimplestLong(t *testing.T) {
	var d dice = 5
	for range 300 {
		q := d.rational(1 + d.upTo(60))
		square := new(big.Int).Mul(q.Denom(), q.Denom())
		near := new(big.Rat).SetFrac(big.NewInt(1), square.Mul(square, big.NewInt(3)))
		lo, hi := new(big.Rat).Sub(q, near), new(big.Rat).Add(q, near)
		check(t, "N9", row{"Simplest", text(lo), text(hi), text(q), api.OK})
		// q itself is not counted; what is told must lie strictly between.
		got, err := num.Simplest(text(q), text(hi))
		x, ok := new(big.Rat).SetString(got)
		if !ok || err != api.OK || x.Cmp(q) <= 0 || x.Cmp(hi) >= 0 {
			t.Errorf("N9: Simplest(%s, %s) = %s, %d", text(q), text(hi), got, err)
		}
	}
}
