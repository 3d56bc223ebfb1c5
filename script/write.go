package script

import (
	"strconv"
	"strings"

	"arbiter/api"
	"arbiter/intake"
	"arbiter/scan"
)

// Print writes a script.
func Print(s api.Script) (string, api.Errno) {
	if err := Check(s); err != api.OK {
		return "", err
	}
	var out strings.Builder
	for _, c := range s.Cmds {
		word := intake.Word(c.Kind)
		if c.Kind == api.CmdFun && len(s.Bank.Funs[c.N].Args) == 0 {
			word = "declare-const"
		}
		out.WriteString(list(append([]string{word}, things(s.Bank, c)...)))
		out.WriteByte('\n')
	}
	return out.String(), api.OK
}

func list(things []string) string {
	return "(" + strings.Join(things, " ") + ")"
}

// things writes what stands behind a command's word; the command is one of a script.
func things(b api.Bank, c api.Cmd) []string {
	switch c.Kind {
	case api.CmdSetLogic:
		return []string{quoted(c.Name)}
	case api.CmdGetInfo, api.CmdGetOption:
		return []string{":" + c.Name}
	case api.CmdSetOption, api.CmdSetInfo:
		if c.Text == "" {
			return []string{":" + c.Name}
		}
		return []string{":" + c.Name, c.Text}
	case api.CmdSort:
		return []string{sortName(b, c.N), "0"}
	case api.CmdFun:
		return signature(b, b.Funs[c.N])
	case api.CmdAssert:
		return []string{assertion(b, c)}
	case api.CmdAssuming, api.CmdValue:
		var spelled []string
		for _, t := range c.Terms {
			spelled = append(spelled, spell(b, t))
		}
		return []string{list(spelled)}
	case api.CmdPush, api.CmdPop:
		return []string{strconv.Itoa(c.N)}
	case api.CmdEcho:
		text, _ := scan.Literal(c.Name)
		return []string{text}
	}
	return nil
}

// quoted writes a name that can be written.
func quoted(name string) string {
	text, _ := scan.Quote(name)
	return text
}

func sortName(b api.Bank, sort int) string {
	switch sort {
	case api.SortBool:
		return "Bool"
	case api.SortReal:
		return "Real"
	}
	return quoted(b.Sorts[sort-api.SortFirst])
}

func signature(b api.Bank, f api.Fun) []string {
	name, out := quoted(f.Name), sortName(b, f.Out)
	if len(f.Args) == 0 {
		return []string{name, out}
	}
	var args []string
	for _, s := range f.Args {
		args = append(args, sortName(b, s))
	}
	return []string{name, list(args), out}
}

func assertion(b api.Bank, c api.Cmd) string {
	text := spell(b, c.Terms[0])
	if c.Name == "" {
		return text
	}
	return list([]string{"!", text, ":named", quoted(c.Name)})
}
