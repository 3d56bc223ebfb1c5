package rat_test

import (
	"math/big"
	"strings"
	"testing"

	"arbiter/rat"
)

// dice is a source of numbers that are the same in each run.
type dice uint64

func (d *dice) word() uint64 {
	*d = *d*6364136223846793005 + 1442695040888963407
	return uint64(*d) ^ uint64(*d)>>29
}

func (d *dice) upTo(n int) int {
	return int(d.word() >> 1 % uint64(n))
}

// awkward is a whole number of at most that many words, of which many are all zeros, all ones, or next to that: there carries, borrows and wrong guesses come up.
func (d *dice) awkward(words int) *big.Int {
	n := new(big.Int)
	for range 1 + d.upTo(words) {
		var word uint64
		switch d.upTo(6) {
		case 0:
			word = 0
		case 1:
			word = ^uint64(0)
		case 2:
			word = 1 << 63
		case 3:
			word = uint64(d.upTo(3))
		case 4:
			word = ^uint64(d.upTo(3))
		default:
			word = d.word()
		}
		n.Lsh(n, 64).Or(n, new(big.Int).SetUint64(word))
	}
	return n
}

func nat(n *big.Int) rat.Nat {
	return rat.ParseNat(n.String())
}

func same(t *testing.T, call string, got rat.Nat, want *big.Int, from ...*big.Int) {
	t.Helper()
	if got.Text() != want.String() {
		t.Fatalf("%s of %v is %s, want %v", call, from, got.Text(), want)
	}
}

func againstNats(t *testing.T, a, b *big.Int) {
	t.Helper()
	x, y := nat(a), nat(b)
	same(t, "Text", x, a, a)
	same(t, "Add", x.Add(y), new(big.Int).Add(a, b), a, b)
	same(t, "Mul", x.Mul(y), new(big.Int).Mul(a, b), a, b)
	same(t, "Gcd", x.Gcd(y), new(big.Int).GCD(nil, nil, a, b), a, b)
	if x.Cmp(y) != a.Cmp(b) {
		t.Fatalf("Cmp of %v, %v is %d", a, b, x.Cmp(y))
	}
	if a.Cmp(b) >= 0 {
		same(t, "Sub", x.Sub(y), new(big.Int).Sub(a, b), a, b)
	}
	if b.Sign() > 0 {
		quotient, rest := x.DivMod(y)
		wantQuotient, wantRest := new(big.Int).QuoRem(a, b, new(big.Int))
		same(t, "DivMod's quotient", quotient, wantQuotient, a, b)
		same(t, "DivMod's rest", rest, wantRest, a, b)
	}
}

func TestNats(t *testing.T) {
	var d dice = 1
	for range 20000 {
		againstNats(t, d.awkward(6), d.awkward(4))
	}
	for range 200 {
		a, b, factor := d.awkward(150), d.awkward(150), d.awkward(20)
		againstNats(t, a, b)
		againstNats(t, a.Mul(a, factor), b.Mul(b, factor))
	}
	for range 3 {
		againstNats(t, d.awkward(1500), d.awkward(500))
	}
}

// Nats whose quotients in Euclid's way are all 1 are the longest to reckon, those of a power are the shortest.
func TestGcdOfNeighbours(t *testing.T) {
	a, b := big.NewInt(1), big.NewInt(1)
	for range 1000 {
		a.Add(a, b)
		a, b = b, a
		againstNats(t, a, b)
	}
	for shift := range uint(300) {
		power := new(big.Int).Lsh(big.NewInt(1), shift)
		againstNats(t, power, new(big.Int).Sub(power, big.NewInt(1)))
		againstNats(t, new(big.Int).Mul(power, power), power)
	}
}

func TestPowAndStrip(t *testing.T) {
	var d dice = 2
	for _, base := range []int64{2, 3, 5, 10} {
		for n := range 130 {
			want := new(big.Int).Exp(big.NewInt(base), big.NewInt(int64(n)), nil)
			power := rat.Word(uint64(base)).Pow(n)
			same(t, "Pow", power, want, big.NewInt(base), big.NewInt(int64(n)))
			other := uint64(7 * (1 + 30*d.upTo(1000)))
			rest, count := power.Mul(rat.Word(other)).Strip(rat.Word(uint64(base)))
			if count != n || rest.Text() != rat.Word(other).Text() {
				t.Fatalf("Strip of %d times %d to the power of %d: %s, %d times", other, base, n, rest.Text(), count)
			}
		}
	}
}

// ParseNat and Text take texts apart at certain lengths.
func TestNatTexts(t *testing.T) {
	for n := range 400 {
		for _, text := range []string{"1" + strings.Repeat("0", n), strings.Repeat("9", n+1), strings.Repeat("1234567890", n)[:n] + "7"} {
			text = strings.TrimLeft(text, "0")
			if got := rat.ParseNat(text).Text(); got != text {
				t.Errorf("%s is read as %s", text, got)
			}
			if got := rat.ParseNat("000" + text).Text(); got != text {
				t.Errorf("000%s is read as %s", text, got)
			}
		}
	}
	if !rat.ParseNat("0").IsZero() || !rat.ParseNat(strings.Repeat("0", 99)).IsZero() || rat.ParseNat("0").Text() != "0" {
		t.Error("0 is not read as 0")
	}
}

func TestRats(t *testing.T) {
	var zero rat.Rat
	if zero.Text() != "0" || zero.Sign() != 0 || !zero.IsWhole() || !zero.Lower().IsOne() || zero.Neg().Text() != "0" {
		t.Error("the zero value is not 0")
	}
	var d dice = 3
	for range 3000 {
		a := new(big.Rat).SetFrac(d.awkward(3), new(big.Int).Add(d.awkward(3), big.NewInt(1)))
		b := new(big.Rat).SetFrac(new(big.Int).Neg(d.awkward(2)), new(big.Int).Add(d.awkward(2), big.NewInt(1)))
		x, okX := rat.Parse(strings.TrimSuffix(a.String(), "/1"))
		y, okY := rat.Parse(strings.TrimSuffix(b.String(), "/1"))
		if !okX || !okY {
			t.Fatalf("%v, %v are not read", a, b)
		}
		for _, pair := range [][2]string{
			{x.Add(y).Text(), new(big.Rat).Add(a, b).String()},
			{x.Sub(y).Text(), new(big.Rat).Sub(a, b).String()},
			{x.Mul(y).Text(), new(big.Rat).Mul(a, b).String()},
			{x.Neg().Text(), new(big.Rat).Neg(a).String()},
			{x.Floor().Text(), new(big.Int).Div(a.Num(), a.Denom()).String()},
			{y.Floor().Text(), new(big.Int).Div(b.Num(), b.Denom()).String()},
		} {
			if pair[0] != strings.TrimSuffix(pair[1], "/1") {
				t.Fatalf("of %v, %v: %s, want %s", a, b, pair[0], pair[1])
			}
		}
		if x.Cmp(y) != a.Cmp(b) || x.Sign() != a.Sign() || y.Sign() != b.Sign() {
			t.Fatalf("order or signs of %v, %v", a, b)
		}
		if b.Sign() != 0 && x.Quo(y).Text() != strings.TrimSuffix(new(big.Rat).Quo(a, b).String(), "/1") {
			t.Fatalf("%v over %v is %s", a, b, x.Quo(y).Text())
		}
	}
}

func TestSumAndProduct(t *testing.T) {
	if rat.Sum().Text() != "0" || rat.Product().Text() != "1" {
		t.Errorf("of no numbers: %s, %s", rat.Sum().Text(), rat.Product().Text())
	}
	var d dice = 4
	for count := range 60 {
		sum, product := new(big.Rat), big.NewRat(1, 1)
		var list []rat.Rat
		for range count {
			a := big.NewRat(int64(d.upTo(2000))-1000, int64(1+d.upTo(50)))
			q, _ := rat.Parse(a.RatString())
			list = append(list, q)
			sum.Add(sum, a)
			product.Mul(product, a)
		}
		if got := rat.Sum(list...).Text(); got != sum.RatString() {
			t.Errorf("the sum of %d numbers is %s, want %v", count, got, sum)
		}
		if got := rat.Product(list...).Text(); got != product.RatString() {
			t.Errorf("the product of %d numbers is %s, want %v", count, got, product)
		}
	}
}
