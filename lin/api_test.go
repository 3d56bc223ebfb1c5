package lin_test

import (
	"testing"

	"arbiter/api"
)

// P0.8: the numbers and the types that these layers speak.
func TestNumbersOfApi(t *testing.T) {
	errors := map[api.Errno]int{api.OK: 0, api.ErrText: 1, api.ErrZero: 2, api.ErrOrder: 3, api.ErrForm: 4, api.ErrCount: 5, api.ErrOp: 6, api.ErrSign: 7, api.ErrGone: 8}
	for err, want := range errors {
		if int(err) != want {
			t.Errorf("P0.8: an error is %d, want %d", err, want)
		}
	}
	ops := [...]int{api.ConLe: 1, api.ConLt: 2, api.ConEq: 3, api.ConTrue: 4, api.ConFalse: 5}
	if len(errors) != 9 || ops != [...]int{0, 1, 2, 3, 4, 5} {
		t.Errorf("P0.8: errors %v, relations %v", errors, ops)
	}
	var form struct {
		M []api.Mono
		K string
	} = api.Lin{}
	var con struct {
		Op int
		F  api.Lin
	} = api.Con{F: form}
	var mono struct {
		V int
		C string
	} = api.Mono{}
	var pair struct{ Lo, Hi api.Delta } = api.Pair{Lo: struct{ A, B string }{}}
	if con.Op != 0 || mono.V != 0 || pair.Lo.A != "" {
		t.Error("P0.8: a zero value is not zero")
	}
}
