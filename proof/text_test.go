package proof_test

import (
	"math"
	"math/rand"
	"reflect"
	"slices"
	"strings"
	"testing"

	"arbiter/api"
	"arbiter/proof"
	"arbiter/scan"
)

// bare makes empty lists nil, which they may be or not.
func bare(p api.Proof) api.Proof {
	q := api.Proof{Failed: none(p.Failed)}
	for _, l := range p.Lemmas {
		m := api.Lemma{Lits: none(l.Lits)}
		for _, d := range l.Derivs {
			d.Up, d.Down = none(d.Up), none(d.Down)
			m.Derivs = append(m.Derivs, d)
		}
		q.Lemmas = append(q.Lemmas, m)
	}
	for _, s := range p.Steps {
		q.Steps = append(q.Steps, api.Step{Lemma: s.Lemma, Lits: none(s.Lits)})
	}
	return q
}

func none[T any](list []T) []T {
	if len(list) == 0 {
		return nil
	}
	return list
}

func alike(p, q api.Proof) bool { return reflect.DeepEqual(bare(p), bare(q)) }

// full is a proof with all that can be written.
func full() api.Proof {
	return api.Proof{
		Lemmas: []api.Lemma{
			{Lits: []int{1, -2, 0, 1000000000, -1000000000}, Derivs: []api.Deriv{
				cong(7, -8),
				between(0, 1, facts(lit(-3, "1/2"), eq(4, "-22/7"), def(5, "0")), nil),
				between(2, 3, nil, facts(lit(1, "123456789012345678901234567890"))),
				clash(9, 10),
				zero(lit(2, "-5"), lit(1, "3")),
				zero(),
			}},
			{},
		},
		Steps:  []api.Step{{Lemma: 0, Lits: []int{1}}, {Lemma: -1}, {Lemma: 1000000000, Lits: []int{-1, 2}}},
		Failed: []int{5, -6},
	}
}

const fullText = `(
  (lemma (1 (- 2) 0 1000000000 (- 1000000000)) (cong 7 (- 8)) (lin 0 1 ((lit (- 3) (/ 1.0 2.0)) (eq 4 (- (/ 22.0 7.0))) (def 5 0.0)) ()) (lin 2 3 () ((lit 1 123456789012345678901234567890.0))) (clash 9 10) (zero ((lit 2 (- 5.0)) (lit 1 3.0))) (zero ()))
  (lemma ())
  (step 0 (1))
  (step ())
  (step 1000000000 ((- 1) 2))
  (failed (5 (- 6)))
)`

func TestShow(t *testing.T) {
	for _, c := range []struct {
		p    api.Proof
		want string
	}{
		{api.Proof{}, "(\n  (failed ())\n)"},
		{full(), fullText},
	} {
		if got, err := proof.Show(c.p); got != c.want || err != api.OK {
			t.Errorf("P16.4: Show(%v) = %d, %s", c.p, err, got)
		}
		if got, err, at := proof.Read(c.want); !alike(got, c.p) || err != api.OK || at != 0 {
			t.Errorf("P16.6: Read(%s) = %v, %d, %d", c.want, got, err, at)
		}
	}
}

func TestShowRefuses(t *testing.T) {
	for _, c := range []struct {
		why  string
		turn func(p *api.Proof)
	}{
		{"a literal of a lemma too great", func(p *api.Proof) { p.Lemmas[0].Lits[3]++ }},
		{"a literal of a lemma too small", func(p *api.Proof) { p.Lemmas[0].Lits[4]-- }},
		{"the least number", func(p *api.Proof) { p.Lemmas[0].Lits[0] = math.MinInt }},
		{"the greatest number", func(p *api.Proof) { p.Lemmas[0].Lits[0] = math.MaxInt }},
		{"a literal of a step", func(p *api.Proof) { p.Steps[0].Lits[0] = 1000000001 }},
		{"a lemma of a step", func(p *api.Proof) { p.Steps[2].Lemma++ }},
		{"a lemma of a step below -1", func(p *api.Proof) { p.Steps[1].Lemma = -2 }},
		{"what failed", func(p *api.Proof) { p.Failed[1] = -1000000001 }},
		{"a node", func(p *api.Proof) { p.Lemmas[0].Derivs[0].A = 1000000001 }},
		{"another node", func(p *api.Proof) { p.Lemmas[0].Derivs[3].B = -1000000001 }},
		{"what a fact names", func(p *api.Proof) { p.Lemmas[0].Derivs[1].Up[1].Ref = 1000000001 }},
		{"no kind", func(p *api.Proof) { p.Lemmas[0].Derivs[5].Kind = 0 }},
		{"no such kind", func(p *api.Proof) { p.Lemmas[0].Derivs[5].Kind = 5 }},
		{"no kind of facts", func(p *api.Proof) { p.Lemmas[0].Derivs[1].Up[0].Kind = 0 }},
		{"no such kind of facts", func(p *api.Proof) { p.Lemmas[0].Derivs[1].Up[0].Kind = 4 }},
		{"not canonical", func(p *api.Proof) { p.Lemmas[0].Derivs[1].Up[0].C = "2/4" }},
		{"no number", func(p *api.Proof) { p.Lemmas[0].Derivs[2].Down[0].C = "" }},
		{"Up of a congruence", func(p *api.Proof) { p.Lemmas[0].Derivs[0].Up = facts(lit(1, "1")) }},
		{"Down of a congruence", func(p *api.Proof) { p.Lemmas[0].Derivs[0].Down = facts(lit(1, "1")) }},
		{"Up of a clash", func(p *api.Proof) { p.Lemmas[0].Derivs[3].Up = facts(lit(1, "1")) }},
		{"Down of a clash", func(p *api.Proof) { p.Lemmas[0].Derivs[3].Down = facts(lit(1, "1")) }},
		{"A of nothing", func(p *api.Proof) { p.Lemmas[0].Derivs[4].A = 1 }},
		{"B of nothing", func(p *api.Proof) { p.Lemmas[0].Derivs[4].B = 1 }},
		{"Down of nothing", func(p *api.Proof) { p.Lemmas[0].Derivs[4].Down = facts(lit(1, "1")) }},
	} {
		p := full()
		c.turn(&p)
		if got, err := proof.Show(p); got != "" || err != api.ErrProof {
			t.Errorf("P16.4: %s: Show = %d, %s", c.why, err, got)
		}
	}
}

func TestRead(t *testing.T) {
	one := func(c string) api.Proof {
		return api.Proof{Lemmas: []api.Lemma{{Derivs: []api.Deriv{zero(lit(1, c))}}}}
	}
	for _, c := range []struct {
		text string
		want api.Proof
	}{
		{"((failed (0)) )", api.Proof{Failed: []int{0}}},
		{"((failed ((- 0) 0)))", api.Proof{Failed: []int{0, 0}}},
		{"; so\n(\t(|failed| ( 7(- 1)) ) ; and so\n\r)", api.Proof{Failed: []int{7, -1}}},
		{"((lemma (1 (- 2)) (zero ((lit 2 1.0) (lit (- 1) (/ 1.0 2.0))))) (step 0 (1 (- 2))) (step ()) (failed (3)))", api.Proof{
			Lemmas: []api.Lemma{{Lits: []int{1, -2}, Derivs: []api.Deriv{zero(lit(2, "1"), lit(-1, "1/2"))}}},
			Steps:  []api.Step{{Lemma: 0, Lits: []int{1, -2}}, {Lemma: -1}},
			Failed: []int{3},
		}},
		{"((lemma () (zero ((lit 1 7)))) (failed ()))", one("7")},
		{"((lemma () (zero ((lit 1 0.50)))) (failed ()))", one("1/2")},
		{"((lemma () (zero ((lit 1 (- 0))))) (failed ()))", one("0")},
		{"((lemma () (zero ((lit 1 (- 1.25))))) (failed ()))", one("-5/4")},
		{"((lemma () (zero ((lit 1 (/ 6 0.4))))) (failed ()))", one("15")},
		{"((lemma () (zero ((lit 1 (- (/ 6 4)))))) (failed ()))", one("-3/2")},
		{"((lemma () (zero ((lit 1 (/ 0 4))))) (failed ()))", one("0")},
		{fullText, full()},
	} {
		if got, err, at := proof.Read(c.text); !alike(got, c.want) || err != api.OK || at != 0 {
			t.Errorf("P16.5: Read(%s) = %v, %d, %d, want %v", c.text, got, err, at, c.want)
		}
		if got, err, at := plainRead(c.text); !alike(got, c.want) || err != api.OK || at != 0 {
			t.Errorf("Read(%s) plainly: %v, %d, %d", c.text, got, err, at)
		}
	}
}

// TestReadRefuses: in each text the place is marked by a byte ^, which is taken out; without one it is the text's begin.
func TestReadRefuses(t *testing.T) {
	of := func(lemma string) string { return "((lemma () " + lemma + ") (failed ()))" }
	number := func(c string) string { return of("(zero ((lit 1 " + c + ")))") }
	for _, marked := range []string{
		"", "  ^", "; so^", "x", "x y", " ^x (failed ())", "(^x)", "(x) ^y", "() ^()", "((failed ())) ^x", "^()", "^((step ()))", "^((lemma ()))", "^((lemma x (foo)))",
		"((failed ()) ^(step ()))", "((failed ()) ^(failed ()))", "((step ()) ^(lemma ()) (failed ()))", "((failed ()) ^x)", "(^(foo) (failed ()))", "(^() (failed ()))", "(^((failed)) (failed ()))", "(^\"failed\" (failed ()))", "((lemma x) ^(foo))", "((step 1 2 3 4) (failed) ^5)", "(^(|| ()) (failed ()))",
		"(^(lemma) (failed ()))", "(^(step) (failed ()))", "(^(step 1 () ()) (failed x))", "(^(failed))", "(^(failed () ()))", "(^(failed x y))",
		"((lemma ^x) (failed ()))", "((lemma ^5 (foo)) (failed ()))", "((failed ^:x))", "((step ^(- 0) ()) (failed ()))", "((step ^x ()) (failed ()))", "((step 0 ^0) (failed ()))", "((step ^1000000001 ()) (failed ()))", "((step ^1.0 x) (failed ()))", "((step ^0) (failed ()))",
		"((failed (^x)))", "((failed (1 ^1.5)))", "((failed (^1000000001)))", "((failed ((- ^1000000001))))", "((failed ((- ^99999999999999999999))))", "((failed (^())))", "((failed (^(-))))", "((failed (^(- 1 2))))", "((failed ((^+ 1))))", "((failed ((- ^(- 1)))))", "((failed ((- ^x))))", "((failed ((^1 1))))", "((failed (^#b1)))", "((failed (^\"1\")))",
		of("^x"), of("^()"), of("(^foo 1)"), of("(^(cong) 1 2)"), of("(^\"cong\" 1 2)"), of("^(cong 1)"), of("^(cong 1 2 3)"), of("^(cong x y z)"), of("^(clash 1)"), of("^(lin 1 2 ())"), of("^(lin 1 2 () () ())"), of("^(zero)"), of("^(zero () ())"), of("(cong ^x y)"), of("(cong 1 ^())"), of("(clash (- 1) (- ^y))"), of("(lin 1 2 ^x y)"), of("(lin 1 2 () ^y)"), of("(lin ^1.0 2 () ())"), of("(zero ^1)"), of("(^|| 1 2)"),
		of("(zero (^x))"), of("(zero (^()))"), of("(zero (^(lit 1)))"), of("(zero (^(lit 1 2 3)))"), of("(zero ((^foo 1 2)))"), of("(zero ((^|| 1 2)))"), of("(zero ((lit ^x 2)))"), of("(zero ((lit 1 1) (lit (- ^x) 2)))"), of("(zero ((^(lit) x y)))"), of("(zero ((eq 1 1) ^def))"),
		number("^x"), number("^()"), number("^(- 1 2 3)"), number("^(-)"), number("(^/ 1)"), number("(^- 1 2)"), number("(^x y)"), number("(^x y z)"), number("(- ^x)"), number("(- ^(- 1))"), number("(- ^(/ 1))"), number("(- (^- 1 2))"), number("(/ ^(- 1) 2)"), number("(/ 1 ^(- 2))"), number("(/ 1 ^0)"), number("(/ 1 ^0.00)"), number("(- (/ 1 ^0))"), number("(/ ^x 0)"), number("^#x1"), number("^\"1\""), number("(/ 1 ^(/ 1 2))"), number("^:k"),
	} {
		text := strings.Replace(marked, "^", "", 1)
		want := max(0, strings.Index(marked, "^"))
		if got, err, at := proof.Read(text); err != api.ErrSyntax || at != want || !alike(got, api.Proof{}) {
			t.Errorf("P16.5: Read(%s) = %v, %d, %d, want %d, %d", text, got, err, at, api.ErrSyntax, want)
		}
		if _, err, at := plainRead(text); err != api.ErrSyntax || at != want {
			t.Errorf("Read(%s) plainly: %d, %d, want %d", text, err, at, want)
		}
	}
	for _, c := range []struct {
		text string
		err  api.Errno
		at   int
	}{{"((failed (", api.ErrOpen, 0}, {"((failed ())))", api.ErrClose, 13}, {"(x 007)", api.ErrGlued, 4}, {"x \"", api.ErrString, 2}, {"(foo '", api.ErrByte, 5}} {
		if got, err, at := proof.Read(c.text); err != c.err || at != c.at || !alike(got, api.Proof{}) {
			t.Errorf("P16.5: Read(%s) = %d, %d, want %d, %d", c.text, err, at, c.err, c.at)
		}
	}
}

func anyWhole(r *rand.Rand) int {
	return []int{0, 1, -1, 7, -12, 1000000000, -1000000000, r.Intn(100), -r.Intn(100)}[r.Intn(9)]
}

func anyWholes(r *rand.Rand) []int {
	var list []int
	for range r.Intn(4) {
		list = append(list, anyWhole(r))
	}
	return list
}

func anyFacts(r *rand.Rand) []api.Coef {
	var list []api.Coef
	for range r.Intn(3) {
		c := []string{"0", "1", "-1", "1/2", "-22/7", "5", "98765432109876543210"}[r.Intn(7)]
		list = append(list, api.Coef{Kind: 1 + r.Intn(3), Ref: anyWhole(r), C: c})
	}
	return list
}

// anyProof makes a proof that can be written, by chance.
func anyProof(r *rand.Rand) api.Proof {
	p := api.Proof{Failed: anyWholes(r)}
	for range r.Intn(3) {
		l := api.Lemma{Lits: anyWholes(r)}
		for range r.Intn(4) {
			a, b := anyWhole(r), anyWhole(r)
			l.Derivs = append(l.Derivs, []api.Deriv{cong(a, b), clash(a, b), between(a, b, anyFacts(r), anyFacts(r)), zero(anyFacts(r)...)}[r.Intn(4)])
		}
		p.Lemmas = append(p.Lemmas, l)
	}
	for range r.Intn(3) {
		p.Steps = append(p.Steps, api.Step{Lemma: max(-1, anyWhole(r)), Lits: anyWholes(r)})
	}
	return p
}

// changed changes a few tokens of a text.
func changed(r *rand.Rand, text string) string {
	tokens, _, _ := scan.Tokens(text)
	var parts []string
	for _, token := range tokens {
		parts = append(parts, text[token.At:token.End])
	}
	for range 1 + r.Intn(2) {
		i := r.Intn(len(parts))
		switch r.Intn(4) {
		case 0:
			parts = slices.Delete(parts, i, i+1)
		case 1:
			parts = slices.Insert(parts, i, parts[r.Intn(len(parts))])
		case 2:
			parts[i] = parts[r.Intn(len(parts))]
		default:
			parts[i] = []string{"(", ")", "()", "x", "-", "/", "0", "7", "1.5", "0.0", "lit", "eq", "def", "cong", "lin", "clash", "zero", "lemma", "step", "failed", "(- 1)", "(/ 1 2)", "(- (/ 1 2))", "1000000001", "\"s\"", ":k", "let"}[r.Intn(27)]
		}
		if len(parts) == 0 {
			break
		}
	}
	return strings.Join(parts, " ")
}

func TestTexts(t *testing.T) {
	r := rand.New(rand.NewSource(16))
	for range 3000 {
		p := anyProof(r)
		text, err := proof.Show(p)
		if err != api.OK {
			t.Fatalf("P16.4: Show(%v): %d", p, err)
		}
		if got, err, at := proof.Read(text); !alike(got, p) || err != api.OK || at != 0 {
			t.Fatalf("P16.6: Read(%s) = %v, %d, %d, want %v", text, got, err, at, p)
		}
		for range 3 {
			text := changed(r, text)
			got, err, at := proof.Read(text)
			want, wantErr, wantAt := plainRead(text)
			if !alike(got, want) || err != wantErr || at != wantAt {
				t.Fatalf("P16.5: Read(%s) = %v, %d, %d, want %v, %d, %d", text, got, err, at, want, wantErr, wantAt)
			}
			if err != api.OK {
				continue
			}
			written, err := proof.Show(got)
			again, _, _ := proof.Read(written)
			if err != api.OK || !alike(again, got) {
				t.Fatalf("P16.6: Read(%s) cannot be written: %d", text, err)
			}
		}
	}
}
