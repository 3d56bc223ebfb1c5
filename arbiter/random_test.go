package arbiter_test

import (
	"math/rand"
	"strings"
	"testing"

	"arbiter/api"
	"arbiter/arbiter"
	"arbiter/scan"
	"arbiter/script"
)

func TestRandom(t *testing.T) {
	good, counts := 0, map[string]int{}
	for seed := range int64(400) {
		g := newGen(seed)
		w := g.script(10 + g.rng.Intn(25))
		if looksOver(t, w.short) {
			good++
		}
		out := arbiter.Run(w.short)
		for _, word := range []string{"unsat\n", "\nsat\n", "define-fun", "(failed", "(error "} {
			counts[word] += strings.Count(out, word)
		}
		if t.Failed() {
			t.Fatalf("seed %d", seed)
		}
	}
	if good < 200 || counts["unsat\n"] < 150 || counts["\nsat\n"] < 150 || counts["(failed"] < 10 || counts["define-fun"] < 100 || counts["(error "] < 20 {
		t.Errorf("too few of one kind: %d, %v", good, counts)
	}
}

// TestWritten: a script that runs without an error is answered as what Print writes of it is, and as it is without let, definitions, comments.
func TestWritten(t *testing.T) {
	count := 0
	for seed := range int64(200) {
		g := newGen(1000 + seed)
		w := g.script(25)
		want := arbiter.Run(w.short)
		if strings.Contains(want, "(error ") {
			continue
		}
		count++
		s, err, _ := script.Parse(w.short)
		printed, notPrinted := script.Print(s)
		if err != api.OK || notPrinted != api.OK {
			t.Fatalf("%s: %d, %d", w.short, err, notPrinted)
		}
		spaced := "; so\n" + strings.ReplaceAll(strings.ReplaceAll(w.short, "(", " ( ; x)\n"), "\n", "\r\t\n")
		for _, text := range []string{printed, w.long, spaced} {
			if got := arbiter.Run(text); got != want {
				t.Fatalf("P0.14, P18.13: Run(%s) = %q, but Run(%s) = %q", text, got, w.short, want)
			}
		}
	}
	if count < 100 {
		t.Errorf("only %d without an error", count)
	}
}

// TestAsking: commands that ask for something change nothing of what is answered behind them.
func TestAsking(t *testing.T) {
	for seed := range int64(150) {
		g := newGen(2000 + seed)
		g.script(25)
		session := arbiter.New()
		var quiet, want strings.Builder
		for _, part := range g.parts {
			response := session.Feed(part.short)
			if strings.HasPrefix(response, "(error ") || part.short == "x" {
				break
			}
			if !strings.HasPrefix(part.short, "(get-") && !strings.HasPrefix(part.short, "(echo") {
				quiet.WriteString(part.short)
				want.WriteString(response)
			}
		}
		if got := arbiter.Run(quiet.String()); got != want.String() {
			t.Fatalf("P18.13: Run(%s) = %q, with more asked %q", quiet.String(), got, want.String())
		}
	}
}

// TestLevels: a check has the verdict that it would have without push and pop.
func TestLevels(t *testing.T) {
	checks := 0
	for seed := range int64(150) {
		g := newGen(3000 + seed)
		text := g.script(25).short
		s, _, _ := script.Parse(text)
		p := &plain{T: t, text: text, s: s, mode: "start", options: initial(), levels: []stage{{}}}
		session := arbiter.New()
		at := 0
		for i, c := range s.Cmds {
			response := session.Feed(text[at:p.end(i)])
			at = p.end(i)
			if strings.HasPrefix(response, "(error ") {
				break
			}
			switch c.Kind {
			case api.CmdCheck, api.CmdAssuming:
				checks++
				if alone := p.alone(c); alone != response {
					t.Fatalf("P0.15: the check at %d of %s answers %q, alone %q", c.At, text, response, alone)
				}
			case api.CmdModel, api.CmdValue, api.CmdCore, api.CmdFailed, api.CmdProof, api.CmdExit:
			default:
				p.command(c, response)
			}
		}
	}
	if checks < 150 {
		t.Errorf("only %d checks", checks)
	}
}

// alone runs a check with the open assertions in a script of their own.
func (p *plain) alone(c api.Cmd) string {
	var b strings.Builder
	for i, name := range p.s.Bank.Sorts {
		b.WriteString("(declare-sort |" + name + "| 0)")
		_ = i
	}
	sort := func(s int) string {
		if s < api.SortFirst {
			return []string{"Bool", "Real"}[s]
		}
		return "|" + p.s.Bank.Sorts[s-api.SortFirst] + "|"
	}
	for _, f := range p.sight() {
		fun := p.s.Bank.Funs[f]
		var args []string
		for _, s := range fun.Args {
			args = append(args, sort(s))
		}
		b.WriteString("(declare-fun |" + fun.Name + "| (" + strings.Join(args, " ") + ") " + sort(fun.Out) + ")")
	}
	for _, a := range p.open() {
		b.WriteString("(assert " + p.spell(a.term) + ")")
	}
	for _, t := range c.Terms {
		b.WriteString("(assert " + p.spell(t) + ")")
	}
	return arbiter.Run(b.String() + "(check-sat)")
}

// TestCut: however a text is cut, the answers are the same.
func TestCut(t *testing.T) {
	r := rand.New(rand.NewSource(18))
	for seed := range int64(120) {
		g := newGen(4000 + seed)
		text := g.script(20).short
		if r.Intn(3) == 0 { // a fault somewhere
			at := r.Intn(len(text))
			text = text[:at] + []string{")", "(", "'", "x ", "|", "\"", "\xc3", "007", " ; \n", ""}[r.Intn(10)] + text[at:]
		}
		want := arbiter.Run(text)
		for _, longest := range []int{1, 5, 60} {
			s := arbiter.New()
			var got strings.Builder
			for at := 0; at < len(text); {
				n := min(len(text)-at, r.Intn(longest+1))
				got.WriteString(s.Feed(text[at : at+n]))
				at += n
			}
			got.WriteString(s.End())
			if got.String() != want || s.Feed("(echo \"x\")")+s.End() != "" {
				t.Fatalf("P0.18, P18.12: %q in pieces answers %q, want %q", text, got.String(), want)
			}
		}
		checkWhole(t, text)
	}
}

// TestFaults: of a text with a fault the commands ahead of it are answered, then the fault, and nothing behind it.
func TestFaults(t *testing.T) {
	for seed := range int64(250) {
		g := newGen(5000 + seed)
		looksOver(t, g.spoilt(g.script(12).short))
		if t.Failed() {
			t.Fatalf("seed %d", seed)
		}
	}
}

// spoilt changes a few tokens of a text.
func (g *gen) spoilt(text string) string {
	tokens, _, _ := scan.Tokens(text)
	for range 1 + g.rng.Intn(2) {
		token := pick(g, tokens...)
		other := pick(g, tokens...)
		now := pick(g, "", "(", ")", "x", "0", "1.5", "true", "()", "let", "'", "\"", "|", "01", "\xe2", "(exit)", "(check-sat)", ":named", other.Text)
		if token.End <= len(text) {
			text = text[:token.At] + now + text[token.End:]
		}
	}
	return text
}
