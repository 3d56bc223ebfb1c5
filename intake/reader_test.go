package intake_test

import (
	"reflect"
	"slices"
	"testing"

	"arbiter/api"
	"arbiter/intake"
	"arbiter/sexp"
	"arbiter/term"
)

// take reads the commands of a text, and tells the violation, if there is one.
func take(r *intake.Reader, text string) (cmds []api.Cmd, v intake.Violation) {
	defer func() {
		if given := recover(); given != nil {
			v = intake.Caught(given)
		}
	}()
	nodes, _, _ := sexp.Read(text)
	for at := 0; at < len(nodes); at += nodes[at].Size {
		cmds = append(cmds, r.Next(nodes, at))
	}
	return cmds, v
}

func TestExcerpt(t *testing.T) {
	r := intake.New()
	cmds, v := take(r, "(declare-const x Real)(define-fun d ((a Real)) Real (+ a 1))(declare-const y Real)(declare-fun f (Real) Real)(assert (< (f x) (d y)))(assert (= x (d y)))")
	if v.Err != api.OK || len(cmds) != 6 || cmds[1].Kind != 0 || cmds[3].N != 2 || r.Funs() != 3 {
		t.Fatalf("%v, %v", cmds, v)
	}
	first, second := cmds[4].Terms[0], cmds[5].Terms[0]
	if got := r.FunsOf(first); !slices.Equal(got, []int{0, 1, 2}) {
		t.Errorf("the functions of the first are %v", got)
	}
	if got := r.FunsOf(second); !slices.Equal(got, []int{0, 1}) {
		t.Errorf("the functions of the second are %v", got)
	}
	b, own := r.Excerpt([]int{1, 0}, []int{second, second})
	if term.Check(b) != api.OK || len(b.Funs) != 2 || b.Funs[0].Name != "y" || !slices.Equal(own, []int{4, 4}) {
		t.Errorf("the excerpt is %v, %v", b, own)
	}
	again, same, _ := term.Compact(b, own)
	if !slices.Equal(same, own) || !reflect.DeepEqual(again, b) {
		t.Errorf("Compact of it is %v, %v", again, same)
	}
	b.Funs[0].Name, b.Terms[0].Sort = "z", 0
	if c, _ := r.Excerpt([]int{1, 0}, []int{second}); c.Funs[0].Name != "y" || c.Terms[0].Sort != api.SortReal {
		t.Error("two excerpts share memory")
	}
}

func TestViolation(t *testing.T) {
	r := intake.New()
	if _, v := take(r, "(declare-const x Real)(assert (< x y))"); v != (intake.Violation{Err: api.ErrUnknown, At: 35}) {
		t.Errorf("%v", v)
	}
	defer func() {
		if recover() != "else" {
			t.Error("what is no violation does not go on")
		}
	}()
	intake.Caught("else")
}

func TestWords(t *testing.T) {
	for kind, word := range map[int]string{api.CmdSetLogic: "set-logic", api.CmdFun: "declare-fun", api.CmdFailed: "get-unsat-assumptions", api.CmdExit: "exit"} {
		if got := intake.Word(kind); got != word {
			t.Errorf("the command %d is written %s, want %s", kind, got, word)
		}
	}
}
