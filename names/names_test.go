package names_test

import (
	"slices"
	"testing"

	"arbiter/api"
	"arbiter/names"
)

func TestScope(t *testing.T) {
	s := names.NewScope[int]()
	s.Put("a", 1)
	s.Put("b", 2)
	s.Put("a", 3)
	if v, ok := s.Find("a"); v != 3 || !ok || !s.Knows("b") || s.Knows("c") || s.Size() != 3 {
		t.Errorf("a is %d, %v", v, ok)
	}
	if gone := s.Back(1); !slices.Equal(gone, []int{3, 2}) {
		t.Errorf("gone are %v", gone)
	}
	if v, ok := s.Find("a"); v != 1 || !ok || s.Knows("b") {
		t.Errorf("a is %d, %v", v, ok)
	}
}

func TestState(t *testing.T) {
	s := names.NewState[string]()
	s.Funs.Put("f", "one")
	if s.Push(api.MaxLevels+1) || !s.Push(api.MaxLevels) || s.Push(1) || !s.Push(0) {
		t.Error("C4: levels above the limit")
	}
	s.Funs.Put("g", "two")
	s.Sorts.Put("U", 2)
	if sort, ok := s.Sort("U"); sort != 2 || !ok {
		t.Errorf("U is %d, %v", sort, ok)
	}
	if _, ok := s.Pop(api.MaxLevels + 1); ok {
		t.Error("C4: more popped than there are")
	}
	if gone, ok := s.Pop(1); !ok || !slices.Equal(gone, []string{"two"}) || s.Funs.Knows("g") || s.Sorts.Knows("U") {
		t.Errorf("gone are %v", gone)
	}
	if gone := s.Forget(); !slices.Equal(gone, []string{"one"}) || s.Funs.Knows("f") {
		t.Errorf("gone are %v", gone)
	}
	for _, kind := range []int{api.CmdEcho, api.CmdSetInfo, api.CmdSetOption, api.CmdGetInfo, api.CmdGetOption} {
		if s.Pass(kind); s.Begun {
			t.Errorf("C4: %d begins a script", kind)
		}
	}
	if s.Pass(0); !s.Begun {
		t.Error("C4: a definition does not count")
	}
	if s.Pass(api.CmdReset); s.Begun {
		t.Error("C4: reset begins anew")
	}
}

func TestReserved(t *testing.T) {
	for _, c := range []struct {
		name             string
		fun, sort, label bool
	}{{"x", false, false, false}, {"and", true, false, true}, {"@a", true, true, true}, {".a", true, true, true}, {"Bool", false, true, false}, {"Real", false, true, false}, {"", false, false, true}} {
		if names.IsReserved(c.name) != c.fun || names.IsReservedSort(c.name) != c.sort || names.IsReservedLabel(c.name) != c.label {
			t.Errorf("reserved names: %q", c.name)
		}
	}
	for op := api.OpTrue; op <= api.OpGt; op++ {
		if name := names.OfOperator(op); name != "" && names.Operator(name) != op {
			t.Errorf("the operator %d is written %q", op, name)
		}
	}
	if names.Operator("") != 0 || names.Operator("foo") != 0 || !names.IsLogic("ALL") || names.IsLogic("QF_BV") {
		t.Error("names that are none")
	}
}
