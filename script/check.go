package script

import (
	"arbiter/api"
	"arbiter/intake"
	"arbiter/names"
	"arbiter/scan"
	"arbiter/sexp"
	"arbiter/term"
	"arbiter/walk"
)

// Check tells whether s is a script.
func Check(s api.Script) api.Errno {
	if err := term.Check(s.Bank); err != api.OK {
		return err
	}
	if !isScript(s) {
		return api.ErrScript
	}
	return api.OK
}

func isScript(s api.Script) bool {
	c := &checker{State: names.NewState[int](), bank: s.Bank, cmds: s.Cmds}
	for i := range s.Cmds {
		if !c.command(i) {
			return false
		}
	}
	return c.sorted == len(s.Bank.Sorts) && len(c.lives) == len(s.Bank.Funs) && c.termsAreKnown() && isCompact(s)
}

// isLabel is what the name of a label stands for where others stand for a function.
const isLabel = -1

// checker goes through the commands of what may be a script of that bank.
type checker struct {
	names.State[int]
	bank   api.Bank
	cmds   []api.Cmd
	sorted int    // how many sorts are declared so far
	lives  []life // of the functions that are declared so far
}

// life is between which two commands a function, or all functions of a term, are known.
type life struct {
	from, to int
}

func (a life) both(b life) life {
	return life{max(a.from, b.from), min(a.to, b.to)}
}

// always is the life of what has no function in it.
func (c *checker) always() life {
	return life{-1, len(c.cmds)}
}

// command looks at a command: its parts, and whether it may stand where it stands. Whether its terms may, termsAreKnown tells when all lives are known.
func (c *checker) command(i int) bool {
	cmd := c.cmds[i]
	var ok bool
	switch cmd.Kind {
	case api.CmdSort:
		ok, cmd.N = c.declareSort(cmd.N), 0
	case api.CmdFun:
		ok, cmd.N = c.declareFun(i, cmd.N), 0
	case api.CmdAssert:
		ok = len(cmd.Terms) == 1 && c.areBool(cmd.Terms) && c.label(cmd.Name)
		cmd.Name, cmd.Terms = "", nil
	case api.CmdAssuming:
		ok, cmd.Terms = c.areBool(cmd.Terms), nil
	case api.CmdValue:
		ok, cmd.Terms = len(cmd.Terms) > 0 && c.areTerms(cmd.Terms), nil
	case api.CmdPush:
		ok, cmd.N = cmd.N >= 0 && c.Push(cmd.N), 0
	case api.CmdPop:
		ok, cmd.N = cmd.N >= 0 && c.popLevels(i, cmd.N), 0
	case api.CmdReset, api.CmdResetAssert:
		c.bury(i, c.Forget())
		ok = true
	case api.CmdExit:
		ok = i == len(c.cmds)-1
	case api.CmdCheck, api.CmdModel, api.CmdCore, api.CmdFailed, api.CmdProof, api.CmdAssertions:
		ok = true
	default:
		ok = c.texts(cmd)
		cmd.Name, cmd.Text = "", ""
	}
	c.Pass(cmd.Kind)
	return ok && cmd.Name == "" && cmd.Text == "" && cmd.N == 0 && len(cmd.Terms) == 0
}

// texts looks at the commands that have texts alone.
func (c *checker) texts(cmd api.Cmd) bool {
	switch cmd.Kind {
	case api.CmdSetLogic:
		return names.IsLogic(cmd.Name) && !c.Begun && cmd.Text == ""
	case api.CmdSetOption:
		return isKeyword(cmd.Name) && isValueText(cmd.Text)
	case api.CmdSetInfo:
		return isKeyword(cmd.Name) && (cmd.Text == "" || isValueText(cmd.Text))
	case api.CmdGetInfo, api.CmdGetOption:
		return isKeyword(cmd.Name) && cmd.Text == ""
	case api.CmdEcho:
		_, err := scan.Literal(cmd.Name)
		return err == api.OK && cmd.Text == ""
	}
	return false
}

func isKeyword(name string) bool {
	_, err := scan.Join([]api.Token{{Kind: api.KindKeyword, Text: name}})
	return err == api.OK
}

func isValueText(text string) bool {
	nodes, err, _ := sexp.Read(text)
	if err != api.OK || len(nodes) == 0 || nodes[0].Size != len(nodes) || !intake.IsValue(nodes[0]) {
		return false
	}
	written, err := sexp.Show(nodes)
	return err == api.OK && written == text+"\n"
}

func isName(name string) bool {
	_, err := scan.Quote(name)
	return err == api.OK
}

func (c *checker) declareSort(sort int) bool {
	if c.sorted == len(c.bank.Sorts) || sort != api.SortFirst+c.sorted {
		return false
	}
	name := c.bank.Sorts[c.sorted]
	if names.IsReservedSort(name) || !isName(name) || c.Sorts.Knows(name) {
		return false
	}
	c.Sorts.Put(name, sort)
	c.sorted++
	return true
}

func (c *checker) declareFun(i, fun int) bool {
	if len(c.lives) == len(c.bank.Funs) || fun != len(c.lives) {
		return false
	}
	f := c.bank.Funs[fun]
	if names.IsReserved(f.Name) || !isName(f.Name) || c.Funs.Knows(f.Name) || !c.knowsSorts(f.Out) || !c.knowsSorts(f.Args...) {
		return false
	}
	c.Funs.Put(f.Name, fun)
	c.lives = append(c.lives, life{i, len(c.cmds)})
	return true
}

// knowsSorts tells whether the names of these sorts of the bank are known, each as that sort.
func (c *checker) knowsSorts(sorts ...int) bool {
	for _, s := range sorts {
		if s < api.SortFirst {
			continue
		}
		if known, ok := c.Sorts.Find(c.bank.Sorts[s-api.SortFirst]); !ok || known != s {
			return false
		}
	}
	return true
}

func (c *checker) label(name string) bool {
	if name == "" {
		return true
	}
	if names.IsReservedLabel(name) || !isName(name) || c.Funs.Knows(name) {
		return false
	}
	c.Funs.Put(name, isLabel)
	return true
}

func (c *checker) popLevels(i, count int) bool {
	gone, ok := c.Pop(count)
	c.bury(i, gone)
	return ok
}

// bury ends the lives of functions that the command i makes unknown.
func (c *checker) bury(i int, gone []int) {
	for _, fun := range gone {
		if fun != isLabel {
			c.lives[fun].to = i
		}
	}
}

func (c *checker) areTerms(terms []int) bool {
	for _, t := range terms {
		if t < 0 || t >= len(c.bank.Terms) {
			return false
		}
	}
	return true
}

func (c *checker) areBool(terms []int) bool {
	if !c.areTerms(terms) {
		return false
	}
	for _, t := range terms {
		if c.bank.Terms[t].Sort != api.SortBool {
			return false
		}
	}
	return true
}

// termsAreKnown tells whether all functions of the terms of each command are known there. A term's life is worked out once: many commands may have the same great term.
func (c *checker) termsAreKnown() bool {
	lives := make([]life, len(c.bank.Terms))
	for i, t := range c.bank.Terms {
		lives[i] = c.always()
		if t.Op == api.OpApp {
			lives[i] = c.lives[t.Fun]
		}
		for _, a := range t.Args {
			lives[i] = lives[i].both(lives[a])
		}
	}
	for i, cmd := range c.cmds {
		for _, t := range cmd.Terms {
			if i <= lives[t].from || i >= lives[t].to {
				return false
			}
		}
	}
	return true
}

// isCompact tells whether the terms of the commands need all terms of the bank, and number them as they are numbered.
func isCompact(s api.Script) bool {
	next := 0
	for t := range walk.Up(roots(s.Cmds), func(t int) []int { return s.Bank.Terms[t].Args }) {
		if t != next {
			return false
		}
		next++
	}
	return next == len(s.Bank.Terms)
}
