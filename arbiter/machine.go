package arbiter

import (
	"slices"
	"strconv"
	"strings"

	"arbiter/api"
	"arbiter/intake"
	"arbiter/scan"
)

// mode is what the last commands have come to.
type mode int

const (
	stays     mode = iota // of a command: it leaves the mode as it is
	starting              // nothing has come yet
	asserting             // something has come since the last check
	satisfied
	refuted
)

// assertion is a term that is asserted; an empty label is none.
type assertion struct {
	term  int
	label string
}

// mark is what was open when a level was opened.
type mark struct {
	funs, asserted int
}

// machine is what the commands of a script have come to.
type machine struct {
	reader   *intake.Reader
	actions  [api.CmdExit + 1]action
	mode     mode
	options  options
	levels   []mark
	funs     []int       // the functions in sight
	asserted []assertion // the open assertions
	check    *check      // the last one, while the mode is what it came to
}

func newMachine() *machine {
	return &machine{reader: intake.New(), actions: actions(), mode: starting, options: newOptions()}
}

// action is what a command of a kind does, and the mode that it leaves.
type action struct {
	run   func(m *machine, c api.Cmd) (string, error)
	after mode
}

func actions() [api.CmdExit + 1]action {
	return [...]action{
		0:                  {(*machine).nothing, stays}, // a definition
		api.CmdSetLogic:    {(*machine).nothing, asserting},
		api.CmdSetOption:   {(*machine).setOption, stays},
		api.CmdSetInfo:     {(*machine).nothing, stays},
		api.CmdGetInfo:     {(*machine).getInfo, stays},
		api.CmdGetOption:   {(*machine).getOption, stays},
		api.CmdSort:        {(*machine).nothing, asserting},
		api.CmdFun:         {(*machine).declare, asserting},
		api.CmdAssert:      {(*machine).assert, asserting},
		api.CmdCheck:       {(*machine).checkSat, stays},
		api.CmdAssuming:    {(*machine).checkSat, stays},
		api.CmdModel:       {(*machine).getModel, stays},
		api.CmdValue:       {(*machine).getValue, stays},
		api.CmdCore:        {(*machine).getCore, stays},
		api.CmdFailed:      {(*machine).getFailed, stays},
		api.CmdProof:       {(*machine).getProof, stays},
		api.CmdAssertions:  {(*machine).getAssertions, stays},
		api.CmdPush:        {(*machine).push, asserting},
		api.CmdPop:         {(*machine).pop, asserting},
		api.CmdReset:       {(*machine).reset, starting},
		api.CmdResetAssert: {(*machine).resetAssertions, asserting},
		api.CmdEcho:        {(*machine).echo, stays},
		api.CmdExit:        {(*machine).exit, stays},
	}
}

// run runs a command, and tells its response, if it has one.
func (m *machine) run(c api.Cmd) (string, error) {
	a := m.actions[c.Kind]
	response, err := a.run(m, c)
	if err != nil {
		return "", err
	}
	if a.after != stays {
		m.mode, m.check = a.after, nil
	}
	return response, nil
}

func (m *machine) nothing(c api.Cmd) (string, error) {
	return "", nil
}

func (m *machine) declare(c api.Cmd) (string, error) {
	m.funs = append(m.funs, c.N)
	return "", nil
}

func (m *machine) assert(c api.Cmd) (string, error) {
	m.asserted = append(m.asserted, assertion{c.Terms[0], c.Name})
	return "", nil
}

func (m *machine) push(c api.Cmd) (string, error) {
	for range c.N {
		m.levels = append(m.levels, mark{len(m.funs), len(m.asserted)})
	}
	return "", nil
}

func (m *machine) pop(c api.Cmd) (string, error) {
	if c.N > 0 {
		m.back(len(m.levels) - c.N)
	}
	return "", nil
}

// back takes away the levels from this one on, with all that is in them.
func (m *machine) back(level int) {
	first := m.levels[level]
	m.levels = m.levels[:level]
	m.funs = m.funs[:first.funs]
	m.asserted = m.asserted[:first.asserted]
}

func (m *machine) resetAssertions(c api.Cmd) (string, error) {
	m.levels, m.funs, m.asserted = nil, nil, nil
	return "", nil
}

func (m *machine) reset(c api.Cmd) (string, error) {
	m.options = newOptions()
	return m.resetAssertions(c)
}

func (m *machine) exit(c api.Cmd) (string, error) {
	return "", errExit
}

func (m *machine) echo(c api.Cmd) (string, error) {
	text, _ := scan.Literal(c.Name)
	return text, nil
}

func (m *machine) getInfo(c api.Cmd) (string, error) {
	switch c.Name {
	case "name":
		return `(:name "arbiter")`, nil
	case "version":
		return `(:version "1.0")`, nil
	case "error-behavior":
		return "(:error-behavior immediate-exit)", nil
	case "assertion-stack-levels":
		return "(:assertion-stack-levels " + strconv.Itoa(len(m.levels)) + ")", nil
	}
	return unsupported, nil
}

// unsupported is the response to what is not known.
const unsupported = "unsupported"

// The options of which something can be asked only while they are true.
const (
	optionModels = iota
	optionCores
	optionAssumptions
	optionProofs
	optionCount
)

// options tells which of them are true.
type options [optionCount]bool

func newOptions() options {
	return options{true, true, true, true}
}

// option tells the option of that name, or below 0: none.
func option(name string) int {
	names := []string{optionModels: "produce-models", optionCores: "produce-unsat-cores", optionAssumptions: "produce-unsat-assumptions", optionProofs: "produce-proofs"}
	return slices.Index(names, name)
}

// success is the name of the option that is always false.
const success = "print-success"

func (m *machine) setOption(c api.Cmd) (string, error) {
	if c.Name == success && c.Text == "false" {
		return "", nil
	}
	number := option(c.Name)
	if number < 0 || c.Text != "true" && c.Text != "false" {
		return unsupported, nil
	}
	if m.mode != starting {
		return "", refusal{api.ErrMode}
	}
	m.options[number] = c.Text == "true"
	return "", nil
}

func (m *machine) getOption(c api.Cmd) (string, error) {
	if number := option(c.Name); number >= 0 {
		return strconv.FormatBool(m.options[number]), nil
	}
	if c.Name == success {
		return "false", nil
	}
	return unsupported, nil
}

// list writes things between parentheses.
func list(things []string) string {
	return "(" + strings.Join(things, " ") + ")"
}
