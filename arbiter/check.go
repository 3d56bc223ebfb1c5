package arbiter

import (
	"arbiter/api"
	"arbiter/decide"
)

// check is a check, and what it came to. While it counts no assertion is made and none is taken away.
type check struct {
	demands  []int // terms of the reader's
	assuming bool  // whether the last of them are assumed, behind the assertions
	bank     api.Bank
	roots    []int // the demands in that bank
	model    api.Model
	proof    api.Proof
}

func (m *machine) checkSat(c api.Cmd) (string, error) {
	k := &check{assuming: c.Kind == api.CmdAssuming}
	for _, a := range m.asserted {
		k.demands = append(k.demands, a.term)
	}
	k.demands = append(k.demands, c.Terms...)
	k.bank, k.roots = m.reader.Excerpt(m.funs, k.demands)
	sat, model, proof, err := decide.Terms(k.bank, k.roots)
	if err != api.OK {
		return "", refusal{err}
	}
	k.model, k.proof = model, proof
	m.check = k
	if sat {
		m.mode = satisfied
		return "sat", nil
	}
	m.mode = refuted
	return "unsat", nil
}
