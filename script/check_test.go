package script_test

import (
	"slices"
	"strconv"
	"strings"
	"testing"

	"arbiter/api"
	"arbiter/num"
	"arbiter/scan"
	"arbiter/script"
	"arbiter/term"
)

// copyOf is a script in memory of its own.
func copyOf(s api.Script) api.Script {
	c := api.Script{Bank: api.Bank{Sorts: slices.Clone(s.Bank.Sorts), Funs: slices.Clone(s.Bank.Funs), Terms: slices.Clone(s.Bank.Terms)}, Cmds: slices.Clone(s.Cmds)}
	for i := range c.Bank.Funs {
		c.Bank.Funs[i].Args = slices.Clone(c.Bank.Funs[i].Args)
	}
	for i := range c.Bank.Terms {
		c.Bank.Terms[i].Args = slices.Clone(c.Bank.Terms[i].Args)
	}
	for i := range c.Cmds {
		c.Cmds[i].Terms = slices.Clone(c.Cmds[i].Terms)
	}
	return c
}

const base = "(set-logic ALL)(set-option :o (a b))(set-info :i v)(set-info :j)(get-info :k)(get-option :l)(declare-sort U 0)(declare-sort |V W| 0)(declare-const p Bool)(declare-fun f (U Bool) U)(declare-const a U)(assert (! (= (f a p) a) :named one))(push 2)(declare-const x Real)(check-sat)(check-sat-assuming (p (< x 1)))(get-model)(get-value (x a p))(pop 1)(get-unsat-core)(get-unsat-assumptions)(get-proof)(get-assertions)(echo \"hi\")(reset-assertions)(declare-sort U 0)(declare-const a U)(assert (= a a))(reset)(set-logic QF_UF)(exit)"

func TestCheckClauses(t *testing.T) {
	good, e, at := look(t, base)
	if e != api.OK || len(good.Cmds) != 31 {
		t.Fatalf("C8: %d at %d, %d commands", e, at, len(good.Cmds))
	}
	find := func(kind int) int { return slices.IndexFunc(good.Cmds, func(c api.Cmd) bool { return c.Kind == kind }) }
	for i := range good.Cmds {
		for _, spoil := range []func(c *api.Cmd){
			func(c *api.Cmd) { c.Kind = 0 }, func(c *api.Cmd) { c.Kind = 23 }, func(c *api.Cmd) { c.Kind = -1 },
			func(c *api.Cmd) { c.Name += "|" }, func(c *api.Cmd) { c.Text += "(" }, func(c *api.Cmd) { c.N = -1 }, func(c *api.Cmd) { c.N += 5000 }, func(c *api.Cmd) { c.Terms = append(c.Terms, -1) }, func(c *api.Cmd) { c.Terms = append(c.Terms, len(good.Bank.Terms)) },
		} {
			s := copyOf(good)
			spoil(&s.Cmds[i])
			if s.Cmds[i].Kind == api.CmdEcho && s.Cmds[i].Name == "hi|" {
				continue // a string may have a bar
			}
			if e := script.Check(s); e != api.ErrScript {
				t.Errorf("C8: %+v: %d", s.Cmds[i], e)
			}
			if text, e := script.Print(s); e != api.ErrScript || text != "" {
				t.Errorf("C9: Print with %+v: %q, %d", s.Cmds[i], text, e)
			}
		}
		s := copyOf(good)
		s.Cmds[i].At = []int{-1, 1 << 62, 0}[i%3]
		s.Cmds[i].Terms = append([]int{}, s.Cmds[i].Terms...)
		if e := script.Check(s); e != api.OK {
			t.Errorf("C8, P0.3: another place, an empty list: %+v: %d", s.Cmds[i], e)
		}
	}
	for _, c := range []struct {
		what string
		at   int
		cmd  api.Cmd
		e    api.Errno
	}{
		{"another logic", find(1), api.Cmd{Kind: 1, Name: "QF_LRA"}, 0}, {"no logic", find(1), api.Cmd{Kind: 1, Name: "QF_BV"}, api.ErrScript},
		{"a keyword of a digit", find(2), api.Cmd{Kind: 2, Name: "1", Text: "a"}, api.ErrScript}, {"no keyword", find(2), api.Cmd{Kind: 2, Text: "a"}, api.ErrScript}, {"a keyword with a blank", find(2), api.Cmd{Kind: 2, Name: "a b", Text: "a"}, api.ErrScript}, {"a reserved word as a keyword", find(2), api.Cmd{Kind: 2, Name: "let", Text: "a"}, 0}, {"no value", find(2), api.Cmd{Kind: 2, Name: "o"}, api.ErrScript}, {"two values", find(2), api.Cmd{Kind: 2, Name: "o", Text: "a b"}, api.ErrScript}, {"a keyword for a value", find(2), api.Cmd{Kind: 2, Name: "o", Text: ":a"}, api.ErrScript}, {"a word for a value", find(2), api.Cmd{Kind: 2, Name: "o", Text: "let"}, api.ErrScript}, {"a value with a blank ahead", find(2), api.Cmd{Kind: 2, Name: "o", Text: " a"}, api.ErrScript}, {"a value that is written otherwise", find(2), api.Cmd{Kind: 2, Name: "o", Text: "|a|"}, api.ErrScript}, {"a value that is a comment too", find(2), api.Cmd{Kind: 2, Name: "o", Text: "a;"}, api.ErrScript}, {"another value", find(2), api.Cmd{Kind: 2, Name: "o", Text: "(|a b| (let :k) \"\"\"\")"}, 0}, {"a value that does not end", find(2), api.Cmd{Kind: 2, Name: "o", Text: "(a"}, api.ErrScript}, {"a value that closes", find(2), api.Cmd{Kind: 2, Name: "o", Text: "a)"}, api.ErrScript},
		{"an info without a value", find(3), api.Cmd{Kind: 3, Name: "o"}, 0}, {"an info without a keyword", find(3), api.Cmd{Kind: 3}, api.ErrScript}, {"an info with no value", find(3), api.Cmd{Kind: 3, Name: "o", Text: ":a"}, api.ErrScript}, {"get-info with a value", find(4), api.Cmd{Kind: 4, Name: "o", Text: "a"}, api.ErrScript}, {"get-option with a value", find(5), api.Cmd{Kind: 5, Name: "o", Text: "a"}, api.ErrScript},
		{"an echo of nothing", find(21), api.Cmd{Kind: 21}, 0}, {"an echo of what no string can hold", find(21), api.Cmd{Kind: 21, Name: "a\x01"}, api.ErrScript}, {"an echo of no characters", find(21), api.Cmd{Kind: 21, Name: "\xff"}, api.ErrScript}, {"an echo with a text", find(21), api.Cmd{Kind: 21, Name: "a", Text: "a"}, api.ErrScript},
		{"a push of 0", find(17), api.Cmd{Kind: 17}, api.ErrScript}, {"a push of 1000", find(17), api.Cmd{Kind: 17, N: 1000}, 0}, {"a push of 1001", find(17), api.Cmd{Kind: 17, N: 1001}, api.ErrScript}, {"a push of all", find(17), api.Cmd{Kind: 17, N: 1<<63 - 1}, api.ErrScript}, {"a pop of 2", find(18), api.Cmd{Kind: 18, N: 2}, 0}, {"a pop of 3", find(18), api.Cmd{Kind: 18, N: 3}, api.ErrScript}, {"a pop of 0", find(18), api.Cmd{Kind: 18}, 0}, {"a pop below 0", find(18), api.Cmd{Kind: 18, N: -1}, api.ErrScript}, {"a pop of the least", find(18), api.Cmd{Kind: 18, N: -1 << 63}, api.ErrScript},
		{"an exit ahead", find(9), api.Cmd{Kind: 22}, api.ErrScript}, {"a logic behind a command", find(9), api.Cmd{Kind: 1, Name: "ALL"}, api.ErrScript}, {"no terms to be told", find(12), api.Cmd{Kind: 12}, api.ErrScript}, {"a check with terms", find(9), api.Cmd{Kind: 9, Terms: []int{0}}, api.ErrScript},
		{"no label", find(8), api.Cmd{Kind: 8, Terms: good.Cmds[find(8)].Terms}, 0}, {"a label that is a function's name", find(8), api.Cmd{Kind: 8, Name: "p", Terms: good.Cmds[find(8)].Terms}, api.ErrScript}, {"a reserved label", find(8), api.Cmd{Kind: 8, Name: "@a", Terms: good.Cmds[find(8)].Terms}, api.ErrScript}, {"an operator for a label", find(8), api.Cmd{Kind: 8, Name: "<=", Terms: good.Cmds[find(8)].Terms}, api.ErrScript}, {"a label that cannot be written", find(8), api.Cmd{Kind: 8, Name: "a\\", Terms: good.Cmds[find(8)].Terms}, api.ErrScript}, {"a word for a label", find(8), api.Cmd{Kind: 8, Name: "let", Terms: good.Cmds[find(8)].Terms}, 0}, {"a label that is a name later", find(8), api.Cmd{Kind: 8, Name: "x", Terms: good.Cmds[find(8)].Terms}, api.ErrScript}, {"an assertion of two", find(8), api.Cmd{Kind: 8, Terms: []int{3, 3}}, api.ErrScript}, {"an assertion of none", find(8), api.Cmd{Kind: 8}, api.ErrScript},
	} {
		s := copyOf(good)
		s.Cmds[c.at] = c.cmd
		if e := script.Check(s); e != c.e {
			t.Errorf("C8: %s: %d, want %d", c.what, e, c.e)
		}
	}
}

func TestCheckBanks(t *testing.T) {
	good, _, _ := script.Parse(base)
	for _, c := range []struct {
		what  string
		spoil func(s *api.Script)
		e     api.Errno
	}{
		{"as it is", func(s *api.Script) {}, 0}, {"no bank", func(s *api.Script) { s.Bank.Terms[0].Op = 99 }, api.ErrOp}, {"no bank, and no script", func(s *api.Script) { s.Bank.Terms[0].Sort = 5; s.Cmds[0].Kind = 0 }, api.ErrSort}, {"no sort", func(s *api.Script) { s.Bank.Funs[0].Out = 9 }, api.ErrIndex},
		{"a term too many", func(s *api.Script) { s.Bank.Terms = append(s.Bank.Terms, api.Term{Op: 1}) }, api.ErrScript}, {"a sort too many", func(s *api.Script) { s.Bank.Sorts = append(s.Bank.Sorts, "T") }, api.ErrScript}, {"a function too many", func(s *api.Script) { s.Bank.Funs = append(s.Bank.Funs, api.Fun{Name: "z"}) }, api.ErrScript},
		{"sorts not in their order", func(s *api.Script) { s.Cmds[6].N, s.Cmds[7].N = 3, 2 }, api.ErrScript}, {"functions not in their order", func(s *api.Script) { s.Cmds[8].N, s.Cmds[10].N = 2, 0 }, api.ErrScript}, {"a sort twice", func(s *api.Script) { s.Cmds[7].N = 2 }, api.ErrScript},
		{"a sort once more", func(s *api.Script) { s.Cmds = slices.Insert(s.Cmds, 8, api.Cmd{Kind: 6, N: 2}) }, api.ErrScript}, {"a sort that is none", func(s *api.Script) { s.Cmds = slices.Insert(s.Cmds, 8, api.Cmd{Kind: 6, N: 99}) }, api.ErrScript}, {"a sort behind all", func(s *api.Script) { s.Cmds = slices.Insert(s.Cmds, 29, api.Cmd{Kind: 6, N: 5}) }, api.ErrScript}, {"a function once more", func(s *api.Script) { s.Cmds = slices.Insert(s.Cmds, 9, api.Cmd{Kind: 7}) }, api.ErrScript}, {"a function that is none", func(s *api.Script) { s.Cmds = slices.Insert(s.Cmds, 9, api.Cmd{Kind: 7, N: 99}) }, api.ErrScript}, {"a function behind all", func(s *api.Script) { s.Cmds = slices.Insert(s.Cmds, 29, api.Cmd{Kind: 7, N: 5}) }, api.ErrScript},
		{"a sort of a reserved name", func(s *api.Script) { s.Bank.Sorts[1] = "Real" }, api.ErrScript}, {"a sort of a dotted name", func(s *api.Script) { s.Bank.Sorts[1] = ".V" }, api.ErrScript}, {"a sort of no name", func(s *api.Script) { s.Bank.Sorts[1] = "" }, 0}, {"a sort with an operator's name", func(s *api.Script) { s.Bank.Sorts[1] = "and" }, 0}, {"a sort of the same name", func(s *api.Script) { s.Bank.Sorts[1] = "U" }, api.ErrScript}, {"a sort that cannot be written", func(s *api.Script) { s.Bank.Sorts[1] = "a|b" }, api.ErrScript},
		{"a function of a reserved name", func(s *api.Script) { s.Bank.Funs[0].Name = "true" }, api.ErrScript}, {"a function of a dotted name", func(s *api.Script) { s.Bank.Funs[0].Name = "@p" }, api.ErrScript}, {"a function of no name", func(s *api.Script) { s.Bank.Funs[0].Name = "" }, 0}, {"a function with a sort's name", func(s *api.Script) { s.Bank.Funs[0].Name = "Bool" }, 0}, {"a function of the same name", func(s *api.Script) { s.Bank.Funs[2].Name = "p" }, api.ErrScript}, {"a function with a label's name", func(s *api.Script) { s.Bank.Funs[3].Name = "one" }, api.ErrScript}, {"a function that cannot be written", func(s *api.Script) { s.Bank.Funs[0].Name = "\x00" }, api.ErrScript}, {"a function of a word", func(s *api.Script) { s.Bank.Funs[0].Name = "let" }, 0},
		{"a sort that is not declared yet", func(s *api.Script) { s.Bank.Funs[0].Out = 4; s.Bank.Terms = nil; dropTerms(s) }, api.ErrScript}, {"a sort that is known no more", func(s *api.Script) { s.Bank.Funs[4].Out = 2; s.Bank.Terms = nil; dropTerms(s) }, api.ErrScript}, {"an argument of a sort that is known no more", func(s *api.Script) { s.Bank.Funs[4].Args = []int{3}; s.Bank.Terms = nil; dropTerms(s) }, api.ErrScript}, {"all without terms", func(s *api.Script) { s.Bank.Terms = nil; dropTerms(s) }, 0},
	} {
		s := copyOf(good)
		c.spoil(&s)
		if e := script.Check(s); e != c.e {
			t.Errorf("C8: %s: %d, want %d", c.what, e, c.e)
		}
	}
	if e := script.Check(api.Script{}); e != api.OK {
		t.Errorf("C8: the empty script: %d", e)
	}
	bank := api.Bank{Funs: []api.Fun{{Name: "p"}, {Name: "q"}}, Terms: []api.Term{{Op: 4}, {Op: 4, Fun: 1}, {Op: 7, Args: []int{0, 1}}}}
	assert := func(ts ...int) []api.Cmd {
		cmds := []api.Cmd{{Kind: 7}, {Kind: 7, N: 1}}
		for _, t := range ts {
			cmds = append(cmds, api.Cmd{Kind: 8, Terms: []int{t}})
		}
		return cmds
	}
	for _, c := range []struct {
		what string
		cmds []api.Cmd
		e    api.Errno
	}{
		{"compact", assert(2), 0}, {"compact, one by one", assert(0, 1, 2, 0), 0}, {"not in the order of the commands", assert(1, 0, 2), api.ErrScript}, {"not all needed", assert(0, 1), api.ErrScript}, {"none needed", assert(), api.ErrScript},
		{"used ahead", []api.Cmd{{Kind: 7}, {Kind: 8, Terms: []int{2}}, {Kind: 7, N: 1}}, api.ErrScript}, {"used ahead of all", []api.Cmd{{Kind: 8, Terms: []int{2}}, {Kind: 7}, {Kind: 7, N: 1}}, api.ErrScript},
		{"known no more", []api.Cmd{{Kind: 17, N: 1}, {Kind: 7}, {Kind: 18, N: 1}, {Kind: 7, N: 1}, {Kind: 8, Terms: []int{2}}}, api.ErrScript}, {"known no more, but used ahead of that too", []api.Cmd{{Kind: 17, N: 1}, {Kind: 7}, {Kind: 7, N: 1}, {Kind: 8, Terms: []int{2}}, {Kind: 18, N: 1}, {Kind: 8, Terms: []int{0}}}, api.ErrScript}, {"still known", []api.Cmd{{Kind: 7}, {Kind: 17, N: 1}, {Kind: 7, N: 1}, {Kind: 8, Terms: []int{2}}, {Kind: 18, N: 1}, {Kind: 8, Terms: []int{0}}}, 0}, {"forgotten", []api.Cmd{{Kind: 7}, {Kind: 7, N: 1}, {Kind: 20}, {Kind: 8, Terms: []int{2}}}, api.ErrScript}, {"reset", []api.Cmd{{Kind: 7}, {Kind: 7, N: 1}, {Kind: 8, Terms: []int{2}}, {Kind: 19}, {Kind: 10, Terms: []int{1}}}, api.ErrScript},
	} {
		s := api.Script{Bank: bank, Cmds: c.cmds}
		if e := script.Check(s); e != c.e || (c.e == api.OK) != roundTrip(s) {
			t.Errorf("C8: %s: %d, want %d", c.what, e, c.e)
		}
	}
	// The same name, another function: what a term is made of must be the one that is known.
	twice := api.Script{Bank: api.Bank{Funs: []api.Fun{{Name: "p"}, {Name: "p"}}, Terms: []api.Term{{Op: 4}}}, Cmds: []api.Cmd{{Kind: 17, N: 1}, {Kind: 7}, {Kind: 18, N: 1}, {Kind: 7, N: 1}, {Kind: 8, Terms: []int{0}}}}
	if e := script.Check(twice); e != api.ErrScript {
		t.Errorf("C8: a function whose name is another's now: %d", e)
	}
	twice.Bank.Terms[0].Fun = 1
	if e := script.Check(twice); e != api.OK {
		t.Errorf("C8: a name declared anew: %d", e)
	}
}

// dropTerms leaves the commands out that have terms.
func dropTerms(s *api.Script) {
	s.Cmds = slices.DeleteFunc(s.Cmds, func(c api.Cmd) bool { return len(c.Terms) > 0 })
}

// written writes what may be no script, without let, as far as it can be written.
func written(s api.Script) (string, bool) {
	ok := true
	quote := func(name string) string {
		text, err := scan.Quote(name)
		ok = ok && err == api.OK
		return text
	}
	sort := func(n int) string {
		return append([]string{"Bool", "Real"}, s.Bank.Sorts...)[n]
	}
	var tree func(t int) string
	tree = func(t int) string {
		if t < 0 || t >= len(s.Bank.Terms) {
			ok = false
			return ""
		}
		v := s.Bank.Terms[t]
		head := opNames[v.Op-1]
		switch v.Op {
		case api.OpNum:
			head, _ = num.Spell(v.Num)
		case api.OpApp:
			head = quote(s.Bank.Funs[v.Fun].Name)
		}
		if len(v.Args) == 0 {
			return head
		}
		for _, a := range v.Args {
			head += " " + tree(a)
		}
		return "(" + head + ")"
	}
	var b strings.Builder
	for _, c := range s.Cmds {
		var list []string
		for _, t := range c.Terms {
			list = append(list, tree(t))
		}
		terms := "(" + strings.Join(list, " ") + ")"
		text := ""
		switch c.Kind {
		case 1:
			text = "set-logic " + quote(c.Name)
		case 2, 3:
			text = []string{"set-option", "set-info"}[c.Kind-2] + " :" + c.Name + " " + c.Text
		case 4, 5:
			text = []string{"get-info", "get-option"}[c.Kind-4] + " :" + c.Name
		case 6:
			if c.N < 2 || c.N >= 2+len(s.Bank.Sorts) {
				return "", false
			}
			text = "declare-sort " + quote(sort(c.N)) + " 0"
		case 7:
			if c.N < 0 || c.N >= len(s.Bank.Funs) {
				return "", false
			}
			f := s.Bank.Funs[c.N]
			text = "declare-fun " + quote(f.Name) + " ("
			for _, a := range f.Args {
				text += " " + quote(sort(a))
			}
			text += ") " + quote(sort(f.Out))
		case 8:
			if len(c.Terms) != 1 {
				return "", false
			}
			text = "assert " + list[0]
			if c.Name != "" {
				text = "assert (! " + list[0] + " :named " + quote(c.Name) + ")"
			}
		case 10, 12:
			text = map[int]string{10: "check-sat-assuming ", 12: "get-value "}[c.Kind] + terms
		case 17, 18:
			text = []string{"push ", "pop "}[c.Kind-17] + strconv.Itoa(c.N)
		case 21:
			s, err := scan.Literal(c.Name)
			ok = ok && err == api.OK
			text = "echo " + s
		default:
			text = map[int]string{9: "check-sat", 11: "get-model", 13: "get-unsat-core", 14: "get-unsat-assumptions", 15: "get-proof", 16: "get-assertions", 19: "reset", 20: "reset-assertions", 22: "exit"}[c.Kind]
			ok = ok && text != ""
		}
		b.WriteString("(" + text + ")\n")
	}
	return b.String(), ok
}

// roundTrip tells whether s is what some text is read as: the text that it would be written as, if any is.
func roundTrip(s api.Script) bool {
	text, ok := written(s)
	if !ok {
		return false
	}
	r, e, _ := plainParse(text)
	return e == api.OK && sameScript(r, s)
}

// spoilScript changes one thing.
func spoilScript(g *gen, s *api.Script) {
	small := func() int { return g.rng.Intn(8) - 1 }
	text := func() string {
		return one(g, "", "p", "x1", "U", "and", "@a", "let", "a b", "a|b", "5", ":k", "(a)", "ALL", "QF_BV", "k")
	}
	if len(s.Cmds) == 0 {
		return
	}
	c := &s.Cmds[g.rng.Intn(len(s.Cmds))]
	switch g.rng.Intn(14) {
	case 0:
		c.Kind = g.rng.Intn(25) - 1
	case 1:
		c.Name = text()
	case 2:
		c.Text = text()
	case 3:
		c.N = small()
	case 4:
		c.Terms = append(c.Terms, small())
	case 5:
		c.Terms = c.Terms[:max(0, len(c.Terms)-1)]
	case 6:
		if len(c.Terms) > 0 {
			c.Terms[0] = g.rng.Intn(len(s.Bank.Terms))
		}
	case 7:
		i := g.rng.Intn(len(s.Cmds))
		*c, s.Cmds[i] = s.Cmds[i], *c
	case 8:
		i := g.rng.Intn(len(s.Cmds))
		s.Cmds = slices.Delete(s.Cmds, i, i+1)
	case 9:
		s.Cmds = slices.Insert(s.Cmds, g.rng.Intn(len(s.Cmds)+1), api.Cmd{Kind: one(g, 9, 17, 18, 19, 20, 22), N: g.rng.Intn(3) / 2})
	case 10:
		if len(s.Bank.Funs) > 0 {
			s.Bank.Funs[g.rng.Intn(len(s.Bank.Funs))].Name = text()
		}
	case 11:
		if len(s.Bank.Sorts) > 0 {
			s.Bank.Sorts[g.rng.Intn(len(s.Bank.Sorts))] = text()
		}
	case 12:
		if len(s.Bank.Terms) > 0 {
			s.Bank.Terms[g.rng.Intn(len(s.Bank.Terms))].Fun = max(0, small())
		}
	case 13:
		if len(s.Bank.Funs) > 0 {
			s.Bank.Funs[g.rng.Intn(len(s.Bank.Funs))].Out = max(0, small())
		}
	}
}

// C8 says that a script is just what Parse can answer.
func TestCheckIsWhatParseAnswers(t *testing.T) {
	count := map[api.Errno]int{}
	for seed := range int64(1500) {
		g := newGen(seed, 0)
		good, _, _ := script.Parse(g.script(12).short)
		for range 6 {
			s := copyOf(good)
			for range 1 + g.rng.Intn(2) {
				spoilScript(g, &s)
			}
			want := term.Check(s.Bank)
			if want == api.OK && !roundTrip(s) {
				want = api.ErrScript
			}
			count[want]++
			if e := script.Check(s); e != want {
				t.Fatalf("C8: Check(%+v) = %d, want %d", s, e, want)
			}
		}
	}
	if count[api.OK] < 500 || count[api.ErrScript] < 500 {
		t.Errorf("what came up: %v", count)
	}
}
