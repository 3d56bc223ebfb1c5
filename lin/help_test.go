package lin_test

import (
	"math/big"
	"slices"
	"strings"
	"testing"

	"arbiter/api"
)

// form is k and multiples of variables, two arguments each: the variable, the multiple.
func form(k string, more ...any) api.Lin {
	f := api.Lin{K: k}
	for i := 0; i+1 < len(more); i += 2 {
		f.M = append(f.M, api.Mono{V: more[i].(int), C: more[i+1].(string)})
	}
	return f
}

func le(k string, more ...any) api.Con { return api.Con{Op: api.ConLe, F: form(k, more...)} }
func lt(k string, more ...any) api.Con { return api.Con{Op: api.ConLt, F: form(k, more...)} }
func eq(k string, more ...any) api.Con { return api.Con{Op: api.ConEq, F: form(k, more...)} }

var always = api.Con{Op: api.ConTrue, F: form("0")}
var never = api.Con{Op: api.ConFalse, F: form("0")}

func cons(list ...api.Con) []api.Con       { return list }
func texts(list ...string) []string        { return list }
func delta(a, b string) api.Delta          { return api.Delta{A: a, B: b} }
func pair(a, b, c, d string) api.Pair      { return api.Pair{Lo: delta(a, b), Hi: delta(c, d)} }
func pairs(list ...api.Pair) []api.Pair    { return list }
func deltas(list ...api.Delta) []api.Delta { return list }

func sameForm(f, g api.Lin) bool {
	return f.K == g.K && slices.Equal(f.M, g.M)
}

func sameCon(c, d api.Con) bool {
	return c.Op == d.Op && sameForm(c.F, d.F)
}

// same holds two answers of one kind against each other; nil and the empty list are alike (P0.3).
func same(a, b any) bool {
	switch x := a.(type) {
	case api.Lin:
		return sameForm(x, b.(api.Lin))
	case api.Con:
		return sameCon(x, b.(api.Con))
	case []api.Con:
		return slices.EqualFunc(x, b.([]api.Con), sameCon)
	}
	return a == b
}

func expect(t *testing.T, promise string, got any, err api.Errno, want any, wantErr api.Errno) {
	t.Helper()
	if !same(got, want) || err != wantErr {
		t.Errorf("%s: %v, %d, want %v, %d", promise, got, err, want, wantErr)
	}
}

// dice is a source of numbers that are the same in each run.
type dice uint64

func (d *dice) upTo(n int) int {
	*d = *d*6364136223846793005 + 1442695040888963407
	return int(uint64(*d>>33) % uint64(n))
}

// number is a small rational for the most part, now and then a long one.
func (d *dice) number() *big.Rat {
	if d.upTo(20) == 0 {
		n, _ := new(big.Int).SetString("123456789012345678901234567890"+strings.Repeat("7", d.upTo(9)), 10)
		return new(big.Rat).SetFrac(n, big.NewInt(int64(d.upTo(99)+1)))
	}
	return big.NewRat(int64(d.upTo(13)-6), int64(d.upTo(4)+1))
}

func (d *dice) positive() *big.Rat {
	for {
		if q := d.number(); q.Sign() > 0 {
			return q
		}
	}
}

func (d *dice) form(vars int) api.Lin {
	f := api.Lin{K: text(d.number())}
	for v := range vars {
		if q := d.number(); q.Sign() != 0 && d.upTo(3) > 0 {
			f.M = append(f.M, api.Mono{V: v, C: text(q)})
		}
	}
	return f
}

func (d *dice) con(vars int) api.Con {
	switch d.upTo(20) {
	case 0:
		return always
	case 1:
		return never
	}
	return api.Con{Op: 1 + d.upTo(3), F: d.form(vars)}
}

func (d *dice) cons(vars, count int, ops ...int) []api.Con {
	var list []api.Con
	for range count {
		c := d.con(vars)
		if len(ops) > 0 && c.Op <= api.ConEq {
			c.Op = ops[d.upTo(len(ops))]
		}
		list = append(list, c)
	}
	return list
}

func (d *dice) point(vars int) []string {
	var at []string
	for range d.upTo(vars + 2) {
		at = append(at, text(d.number()))
	}
	return at
}

func text(q *big.Rat) string {
	return strings.TrimSuffix(q.String(), "/1")
}

func rat(text string) *big.Rat {
	q, ok := new(big.Rat).SetString(text)
	if !ok {
		panic("no rational: " + text)
	}
	return q
}

// gathered reckons the sum of c times f for each two arguments c, f by the library's own rationals.
func gathered(more ...any) api.Lin {
	k := new(big.Rat)
	coefs := map[int]*big.Rat{}
	for i := 0; i < len(more); i += 2 {
		c, f := more[i].(*big.Rat), more[i+1].(api.Lin)
		k.Add(k, new(big.Rat).Mul(c, rat(f.K)))
		for _, mono := range f.M {
			if coefs[mono.V] == nil {
				coefs[mono.V] = new(big.Rat)
			}
			coefs[mono.V].Add(coefs[mono.V], new(big.Rat).Mul(c, rat(mono.C)))
		}
	}
	var vars []int
	for v := range coefs {
		vars = append(vars, v)
	}
	slices.Sort(vars)
	f := api.Lin{K: text(k)}
	for _, v := range vars {
		if coefs[v].Sign() != 0 {
			f.M = append(f.M, api.Mono{V: v, C: text(coefs[v])})
		}
	}
	return f
}

func coefficient(f api.Lin, v int) *big.Rat {
	for _, mono := range f.M {
		if mono.V == v {
			return rat(mono.C)
		}
	}
	return new(big.Rat)
}

func lacking(f api.Lin, v int) api.Lin {
	g := api.Lin{K: f.K}
	for _, mono := range f.M {
		if mono.V != v {
			g.M = append(g.M, mono)
		}
	}
	return g
}

func worth(f api.Lin, at []string) *big.Rat {
	sum := rat(f.K)
	for _, mono := range f.M {
		if mono.V < len(at) {
			sum.Add(sum, new(big.Rat).Mul(rat(mono.C), rat(at[mono.V])))
		}
	}
	return sum
}

func met(c api.Con, at []string) bool {
	sign := worth(c.F, at).Sign()
	switch c.Op {
	case api.ConLe:
		return sign <= 0
	case api.ConLt:
		return sign < 0
	case api.ConEq:
		return sign == 0
	}
	return c.Op == api.ConTrue
}

func allMet(list []api.Con, at []string) bool {
	return !slices.ContainsFunc(list, func(c api.Con) bool { return !met(c, at) })
}

// with is the point at with x for v.
func with(at []string, v int, x string) []string {
	moved := slices.Clone(at)
	for len(moved) <= v {
		moved = append(moved, "0")
	}
	moved[v] = x
	return moved
}

func inverse(q *big.Rat) *big.Rat {
	return new(big.Rat).Inv(q)
}

func size(q *big.Rat) *big.Rat {
	return new(big.Rat).Abs(q)
}

var oneTime = big.NewRat(1, 1)
var minus = big.NewRat(-1, 1)
