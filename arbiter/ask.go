package arbiter

import (
	"strings"

	"arbiter/api"
	"arbiter/proof"
	"arbiter/scan"
	"arbiter/script"
	"arbiter/world"
	"arbiter/worth"
)

// allows refuses what may be asked in one mode alone, while an option is true.
func (m *machine) allows(wanted mode, option int) error {
	if m.mode != wanted || !m.options[option] {
		return refusal{api.ErrMode}
	}
	return nil
}

// spell writes a term.
func (m *machine) spell(t int) string {
	bank, own := m.reader.Excerpt(m.reader.FunsOf(t), []int{t})
	text, _ := script.Spell(bank, own[0])
	return text
}

func (m *machine) getAssertions(c api.Cmd) (string, error) {
	var terms []string
	for _, a := range m.asserted {
		terms = append(terms, m.spell(a.term))
	}
	return list(terms), nil
}

func (m *machine) getModel(c api.Cmd) (string, error) {
	if err := m.allows(satisfied, optionModels); err != nil {
		return "", err
	}
	bank, _ := m.reader.Excerpt(m.funs, nil)
	text, _ := world.Show(bank, m.check.model)
	return strings.TrimSuffix(text, "\n"), nil
}

func (m *machine) getValue(c api.Cmd) (string, error) {
	if err := m.allows(satisfied, optionModels); err != nil {
		return "", err
	}
	bank, own := m.reader.Excerpt(m.funs, c.Terms)
	tables, _, _ := worth.Tables(bank.Funs, m.check.model)
	values := worth.Terms(bank.Terms, tables, own)
	sorts := api.Bank{Sorts: bank.Sorts}
	var pairs []string
	for i, t := range c.Terms {
		value, _ := world.Spell(sorts, worth.Plain(values[own[i]]))
		pairs = append(pairs, list([]string{m.spell(t), value}))
	}
	return list(pairs), nil
}

func (m *machine) getProof(c api.Cmd) (string, error) {
	if err := m.allows(refuted, optionProofs); err != nil {
		return "", err
	}
	text, _ := proof.Show(m.check.proof)
	return text, nil
}

func (m *machine) getCore(c api.Cmd) (string, error) {
	if err := m.allows(refuted, optionCores); err != nil {
		return "", err
	}
	var labels []string
	for _, number := range m.check.needed(m.hasNoLabel) {
		label, _ := scan.Quote(m.asserted[number].label)
		labels = append(labels, label)
	}
	return list(labels), nil
}

// isAssertion tells whether a demand of the last check, by its number, is an assertion, not a term assumed.
func (m *machine) isAssertion(number int) bool {
	return number < len(m.asserted)
}

func (m *machine) hasNoLabel(number int) bool {
	return !m.isAssertion(number) || m.asserted[number].label == ""
}

func (m *machine) getFailed(c api.Cmd) (string, error) {
	if err := m.allows(refuted, optionAssumptions); err != nil {
		return "", err
	}
	if !m.check.assuming {
		return "", refusal{api.ErrMode}
	}
	var terms []string
	for _, number := range m.check.needed(m.isAssertion) {
		terms = append(terms, m.spell(m.check.demands[number]))
	}
	return list(terms), nil
}
