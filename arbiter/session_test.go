package arbiter_test

import (
	"strings"
	"testing"

	"arbiter/api"
	"arbiter/arbiter"
	"arbiter/sexp"
)

// checkWhole feeds a text byte by byte, and holds what was answered so far against what Run answers to the text up to the last command that is whole.
func checkWhole(t *testing.T, text string) {
	t.Helper()
	s := arbiter.New()
	got, want, whole := "", "", 0
	for i := range len(text) {
		got += s.Feed(text[i : i+1])
		nodes, _, _ := sexp.Read(text[:i+1])
		end := 0
		for at := 0; at < len(nodes); at += nodes[at].Size {
			if nodes[at].Kind == api.KindOpen {
				end = nodes[at].End
			}
		}
		if end > whole {
			whole = end
			want = arbiter.Run(text[:end])
		}
		if got != want {
			t.Fatalf("P18.12: fed %q it has answered %q, want %q", text[:i+1], got, want)
		}
	}
	if got += s.End(); got != arbiter.Run(text) {
		t.Fatalf("P18.12: %q in bytes answers %q", text, got)
	}
}

// TestSession: each row is pieces with what Feed answers to them, and what End answers.
func TestSession(t *testing.T) {
	type fed struct{ piece, answer string }
	for _, c := range []struct {
		feeds []fed
		end   string
	}{
		{nil, ""},
		{[]fed{{"", ""}, {" ; so\n", ""}}, ""},
		{[]fed{{"(check-s", ""}, {"at)(exi", "sat\n"}, {"t) ) )", ""}}, ""},
		{[]fed{{"(echo \"a\"))", "\"a\"\n"}, {"(echo \"b\")", ""}}, "(error \"syntax error at 10\")\n"},
		{[]fed{{"(echo \"a\"))((b))", "\"a\"\n"}, {"((c))(check-sat)", ""}}, "(error \"syntax error at 10\")\n"},
		{[]fed{{"x", ""}, {" ", ""}, {"y(", ""}, {"echo \"b\"", ""}, {")", "(error \"syntax error at 0\")\n"}, {"(check-sat)", ""}}, ""},
		{[]fed{{"(echo \"a\") x", "\"a\"\n"}, {" y", ""}}, "(error \"syntax error at 11\")\n"},
		{[]fed{{"(echo \"a\") x 007 (check-sat)", "\"a\"\n"}, {"(check-sat)", ""}}, "(error \"syntax error at 11\")\n"},
		{[]fed{{"(echo \"a\") 007 (check-sat)", "\"a\"\n"}, {"(check-sat)", ""}}, "(error \"lexical error at 12\")\n"},
		{[]fed{{"(assert p)", "(error \"unknown symbol at 8\")\n"}, {"(check-sat)", ""}}, ""},
		{[]fed{{"(assert p", ""}, {" )", "(error \"unknown symbol at 8\")\n"}}, ""},
		{[]fed{{"(assert p", ""}}, "(error \"syntax error at 0\")\n"},
		{[]fed{{"(echo \"a\")(echo \"b\")(get-model)(echo \"c\")", "\"a\"\n\"b\"\n(error \"wrong mode at 20\")\n"}, {"(echo \"d\")", ""}}, ""},
		{[]fed{{"(echo \"a", ""}, {")\"\"", ""}, {"(b\"", ""}, {")", "\"a)\"\"(b\"\n"}}, ""},
		{[]fed{{"(echo \"a\" ; )\n", ""}, {")", "\"a\"\n"}}, ""},
		{[]fed{{"(echo |a) ", ""}, {"|", ""}, {")", "(error \"syntax error at 6\")\n"}}, ""},
		{[]fed{{"(check-sat)\xe2\x82", "sat\n"}, {"\xac", ""}}, "(error \"lexical error at 11\")\n"},
		{[]fed{{"(check-sat);\xe2\x82", "sat\n"}, {"\xac\n(check-sat)", "sat\n"}}, ""},
		{[]fed{{"(check-sat) (", "sat\n"}, {"(", ""}, {"check-sat)", ""}, {")", "(error \"syntax error at 13\")\n"}}, ""},
		{[]fed{{"(push 1)(check-sat", ""}, {")(pop 1)", "sat\n"}, {"(pop 1)", "(error \"wrong mode at 26\")\n"}}, ""},
		{[]fed{{"(exit)(assert", ""}, {")", ""}, {"'", ""}}, ""},
	} {
		s := arbiter.New()
		text := ""
		for _, f := range c.feeds {
			if got := s.Feed(f.piece); got != f.answer {
				t.Errorf("P18.12: behind %q Feed(%q) = %q, want %q", text, f.piece, got, f.answer)
			}
			text += f.piece
		}
		if got := s.End(); got != c.end {
			t.Errorf("P18.12: behind %q End = %q, want %q", text, got, c.end)
		}
		if got := s.End() + s.Feed("(check-sat)") + s.End(); got != "" {
			t.Errorf("P18.12: behind the end: %q", got)
		}
		checkWhole(t, text)
	}
}

// TestTwoSessions: two sessions know nothing of one another.
func TestTwoSessions(t *testing.T) {
	a, b := arbiter.New(), arbiter.New()
	got := a.Feed("(declare-const p Bool)(assert p)(push 1)") + b.Feed("(declare-const p Real)(assert (< p 0))")
	got += a.Feed("(check-sat)(get-value (p))") + b.Feed("(assert (> p 0))(check-sat)(get-assertions)")
	got += a.Feed("(get-info :assertion-stack-levels)(assert q)") + b.Feed("(check-sat)") + a.End() + b.End()
	want := "sat\n((p true))\nunsat\n((< p 0.0) (> p 0.0))\n(:assertion-stack-levels 1)\n(error \"unknown symbol at 108\")\nunsat\n"
	if got != want {
		t.Errorf("P18.13: %q, want %q", got, want)
	}
}

// TestMuchInPieces: a long text that comes byte by byte, and a command that does, take no more than their length.
func TestMuchInPieces(t *testing.T) {
	var b strings.Builder
	b.WriteString("(declare-const p Bool)(assert (and p p")
	for range 60000 {
		b.WriteString(" p")
	}
	b.WriteString("))")
	for range 3000 {
		b.WriteString("(push 1)(assert p)(pop 1)(set-info :k (a b))\n")
	}
	b.WriteString("(check-sat)")
	text := b.String()
	s := arbiter.New()
	got := ""
	for i := range len(text) {
		got += s.Feed(text[i : i+1])
	}
	if got += s.End(); got != "sat\n" {
		t.Errorf("P0.18: %q", got)
	}
}
