package order_test

import (
	"math"
	"math/big"
	"slices"
)

// plain is an order by the chapter's words: lists, gone through from end to end, and numbers that are exact until they are rounded.
type plain struct {
	activity []float32 // by variable, less one
	rise     float32
	waits    []bool
	phase    []bool
}

func newPlain(n int) *plain {
	p := &plain{activity: make([]float32, n), rise: 1, waits: make([]bool, n), phase: make([]bool, n)}
	for i := range p.waits {
		p.waits[i] = true
	}
	return p
}

func exact(f float32) *big.Rat { return new(big.Rat).SetFloat64(float64(f)) }

// rounded tells the nearest float32, of two the even one.
func rounded(r *big.Rat) float32 {
	f, _ := r.Float32()
	return f
}

func nearest(text string) float32 {
	r, ok := new(big.Rat).SetString(text)
	if !ok {
		panic(text)
	}
	return rounded(r)
}

func (p *plain) shrink() {
	by := exact(nearest("1e-20"))
	for i, a := range p.activity {
		p.activity[i] = rounded(new(big.Rat).Mul(exact(a), by))
	}
	p.rise = rounded(new(big.Rat).Mul(exact(p.rise), by))
}

func (p *plain) bump(v int) {
	p.activity[v-1] = rounded(new(big.Rat).Add(exact(p.activity[v-1]), exact(p.rise)))
	if p.activity[v-1] > nearest("1e20") {
		p.shrink()
	}
}

func (p *plain) decay() {
	p.rise = rounded(new(big.Rat).Quo(exact(p.rise), exact(nearest("0.95"))))
	if p.rise > nearest("1e20") {
		p.shrink()
	}
}

func (p *plain) first() int {
	best := 0
	for i, waits := range p.waits {
		if waits && (best == 0 || p.activity[i] > p.activity[best-1]) {
			best = i + 1
		}
	}
	return best
}

func (p *plain) take() int {
	v := p.first()
	if v > 0 {
		p.waits[v-1] = false
	}
	return v
}

func (p *plain) waiting() []int {
	var list []int
	held := slices.Clone(p.waits)
	for v := p.take(); v > 0; v = p.take() {
		list = append(list, v)
	}
	p.waits = held
	return list
}

func (p *plain) score(v int) uint32 { return math.Float32bits(p.activity[v-1]) }
