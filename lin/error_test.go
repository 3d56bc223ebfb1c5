package lin_test

import (
	"math"
	"slices"
	"testing"

	"arbiter/api"
	"arbiter/lin"
)

// variant is a value for an argument, and the error that it is alone.
type variant struct {
	value any
	err   api.Errno
}

var rank = []api.Errno{api.ErrText, api.ErrForm, api.ErrOp, api.ErrCount, api.ErrSign, api.ErrGone, api.ErrOrder}

func foremost(found []api.Errno) api.Errno {
	for _, err := range rank {
		if slices.Contains(found, err) {
			return err
		}
	}
	return api.OK
}

// tryAll makes the call with each choice of a variant for each argument: the error must be that which stands first in the chapter's table, and all else the zero value.
func tryAll(t *testing.T, name string, zero any, call func(a []any) (any, api.Errno), slots ...[]variant) {
	t.Helper()
	choice := make([]int, len(slots))
	for {
		var args []any
		var found []api.Errno
		for i, slot := range slots {
			args = append(args, slot[choice[i]].value)
			found = append(found, slot[choice[i]].err)
		}
		want := foremost(found)
		got, err := call(args)
		if err != want {
			t.Errorf("%s%v: error %d, want %d", name, args, err, want)
		} else if err != api.OK && !same(got, zero) {
			t.Errorf("P0.2: %s%v = %v beside error %d", name, args, got, err)
		}
		i := 0
		for ; i < len(slots); i++ {
			if choice[i]++; choice[i] < len(slots[i]) {
				break
			}
			choice[i] = 0
		}
		if i == len(slots) {
			return
		}
	}
}

var badTexts = []string{"", "02", "-0", "+1", "4/2", "3/1", "1.5", " 1", "x", "1/0", "1/-2"}

// formVariants has at its head a good form with the variables 0 and 1.
func formVariants() []variant {
	list := []variant{
		{form("1", 0, "2", 1, "-1"), api.OK},
		{form("1", -1, "2"), api.ErrForm},
		{form("1", 0, "2", 0, "3"), api.ErrForm},
		{form("1", 1, "2", 0, "3"), api.ErrForm},
		{form("1", 0, "2", 1, "0"), api.ErrForm},
		{form("00", 1, "2", 0, "3"), api.ErrText},
		{form("1", -1, "2", 1, "4/2"), api.ErrText},
		{api.Lin{}, api.ErrText},
	}
	for _, bad := range badTexts {
		list = append(list, variant{form(bad, 0, "1"), api.ErrText}, variant{form("1", 0, "1", 1, bad), api.ErrText})
	}
	return list
}

func numberVariants() []variant {
	list := []variant{{"2", api.OK}}
	for _, bad := range badTexts {
		list = append(list, variant{bad, api.ErrText})
	}
	return list
}

var varVariants = []variant{{0, api.OK}, {-1, api.ErrForm}, {math.MinInt, api.ErrForm}}

func conVariants() []variant {
	list := []variant{
		{always, api.OK}, {never, api.OK}, {le("1", 0, "2"), api.OK}, {lt("1"), api.OK}, {eq("1", 1, "2"), api.OK},
		{api.Con{Op: 0, F: form("0")}, api.ErrOp}, {api.Con{Op: 6, F: form("1", 0, "2")}, api.ErrOp}, {api.Con{Op: -1, F: form("1")}, api.ErrOp}, {api.Con{Op: math.MaxInt, F: form("0")}, api.ErrOp},
		{api.Con{Op: api.ConTrue, F: form("1")}, api.ErrForm}, {api.Con{Op: api.ConFalse, F: form("1")}, api.ErrForm}, {api.Con{Op: api.ConTrue, F: form("0", 0, "1")}, api.ErrForm}, {api.Con{Op: api.ConFalse, F: form("0", 0, "1")}, api.ErrForm},
		{api.Con{Op: api.ConFalse, F: form("00", 0, "1")}, api.ErrText}, {api.Con{Op: api.ConTrue}, api.ErrText},
		{api.Con{Op: 9, F: form("0", -1, "1")}, api.ErrForm}, {api.Con{Op: 9, F: form("", -1, "1")}, api.ErrText}, {api.Con{}, api.ErrText},
	}
	for _, v := range formVariants()[1:] {
		list = append(list, variant{api.Con{Op: api.ConLe, F: v.value.(api.Lin)}, v.err})
	}
	return list
}

// consVariants are lists with a faulty constraint in each place, and with two faulty ones.
func consVariants() []variant {
	good := cons(le("1", 0, "2"), eq("0", 0, "1", 1, "3"))
	list := []variant{{good, api.OK}}
	for _, v := range conVariants()[5:] {
		c := v.value.(api.Con)
		list = append(list, variant{cons(c, good[1]), v.err}, variant{cons(good[0], c), v.err})
	}
	broken := []variant{{api.Con{Op: 9, F: form("1")}, api.ErrOp}, {le("0", 1, "1", 0, "1"), api.ErrForm}, {lt("x"), api.ErrText}}
	for _, a := range broken {
		for _, b := range broken {
			list = append(list, variant{cons(a.value.(api.Con), b.value.(api.Con)), foremost([]api.Errno{a.err, b.err})})
		}
	}
	return list
}

func pointVariants() []variant {
	list := []variant{{texts("3", "-1"), api.OK}, {texts(), api.OK}, {texts("1", "1", "1", "1"), api.OK}}
	for _, bad := range badTexts {
		list = append(list, variant{texts(bad), api.ErrText}, variant{texts("1", "2", "3", "4", bad), api.ErrText})
	}
	return list
}

func deltaVariants() []variant {
	list := []variant{{delta("1", "-2"), api.OK}}
	for _, bad := range badTexts {
		list = append(list, variant{delta(bad, "0"), api.ErrText}, variant{delta("0", bad), api.ErrText})
	}
	return list
}

func TestErrorsOfForms(t *testing.T) {
	monos := []variant{{form("0", 3, "1", 0, "0", 3, "1").M, api.OK}, {form("0").M, api.OK}, {form("0", 1, "1", -1, "1").M, api.ErrForm}, {form("0", -1, "1", 1, "2/2").M, api.ErrText}, {form("0", 1, "").M, api.ErrText}}
	tryAll(t, "L2: Form", api.Lin{}, func(a []any) (any, api.Errno) { return lin.Form(a[0].([]api.Mono), a[1].(string)) }, monos, numberVariants())
	tryAll(t, "L3: Check", 0, func(a []any) (any, api.Errno) { return 0, lin.Check(a[0].(api.Lin)) }, formVariants())
	tryAll(t, "L4: Add", api.Lin{}, func(a []any) (any, api.Errno) { return lin.Add(a[0].(api.Lin), a[1].(api.Lin)) }, formVariants(), formVariants())
	tryAll(t, "L4: Scale", api.Lin{}, func(a []any) (any, api.Errno) { return lin.Scale(a[0].(api.Lin), a[1].(string)) }, formVariants(), append(numberVariants(), variant{"0", api.OK}))
	tryAll(t, "L5: Subst", api.Lin{}, func(a []any) (any, api.Errno) {
		return lin.Subst(a[0].(api.Lin), a[1].(int), a[2].(api.Lin))
	}, formVariants(), append(varVariants, variant{7, api.OK}), formVariants())
	tryAll(t, "L6: Solve", api.Lin{}, func(a []any) (any, api.Errno) { return lin.Solve(a[0].(api.Lin), a[1].(int)) }, append(formVariants(), variant{form("1", 1, "2"), api.ErrGone}, variant{form("0"), api.ErrGone}), varVariants)
	tryAll(t, "L7: Value", "", func(a []any) (any, api.Errno) { return lin.Value(a[0].(api.Lin), a[1].([]string)) }, formVariants(), pointVariants())
}

func TestErrorsOfConstraints(t *testing.T) {
	tryAll(t, "L7: Holds", false, func(a []any) (any, api.Errno) { return lin.Holds(a[0].(api.Con), a[1].([]string)) }, conVariants(), pointVariants())
	tryAll(t, "L8: Tidy", api.Con{}, func(a []any) (any, api.Errno) { return lin.Tidy(a[0].(api.Con)) }, conVariants())
	tryAll(t, "L9: Opposite", []api.Con(nil), func(a []any) (any, api.Errno) { return lin.Opposite(a[0].(api.Con)) }, conVariants())
	tryAll(t, "L11: Eliminate", []api.Con(nil), func(a []any) (any, api.Errno) { return lin.Eliminate(a[0].([]api.Con), a[1].(int)) }, consVariants(), varVariants)
	points := pointVariants()
	// With the first two the good constraints of consVariants cannot hold: the equation makes the variable 0 too great.
	points[0] = variant{texts("0", "-1"), api.ErrOrder}
	points[1] = variant{texts(), api.ErrOrder}
	tryAll(t, "L12: Between", "", func(a []any) (any, api.Errno) { return lin.Between(a[0].([]api.Con), a[1].(int), a[2].([]string)) }, consVariants(), varVariants, points)
}

func TestErrorsOfSums(t *testing.T) {
	mults := []variant{
		{texts("1", "-1"), api.OK}, {texts("0", "0"), api.OK},
		{texts("1", "x"), api.ErrText}, {texts("-0", "1"), api.ErrText}, {texts("1", "1", "01"), api.ErrText}, {texts(""), api.ErrText},
		{texts("1"), api.ErrCount}, {texts("1", "1", "1"), api.ErrCount}, {texts(), api.ErrCount}, {texts("-1"), api.ErrCount},
		{texts("-1", "1"), api.ErrSign}, {texts("-1/100", "-1"), api.ErrSign},
	}
	for name, call := range map[string]func(list []api.Con, mult []string) (any, api.Errno){
		"Combine": func(list []api.Con, mult []string) (any, api.Errno) { return lin.Combine(list, mult) },
		"Farkas":  func(list []api.Con, mult []string) (any, api.Errno) { return lin.Farkas(list, mult) },
	} {
		zero := map[string]any{"Combine": api.Con{}, "Farkas": false}[name]
		tryAll(t, "L10: "+name, zero, func(a []any) (any, api.Errno) { return call(a[0].([]api.Con), a[1].([]string)) }, consVariants(), mults)
		for _, c := range cons(le("0", 0, "1"), lt("0", 0, "1"), always, never) {
			got, err := call(cons(eq("1", 1, "1"), c), texts("-2", "-1/2"))
			expect(t, "L10: "+name+" with a multiple below 0", got, err, zero, api.ErrSign)
		}
		got, err := call(nil, texts("1"))
		expect(t, "L10: "+name+" of no constraint", got, err, zero, api.ErrCount)
	}
}

func TestErrorsOfDeltas(t *testing.T) {
	tryAll(t, "L13: DAdd", api.Delta{}, func(a []any) (any, api.Errno) { return lin.DAdd(a[0].(api.Delta), a[1].(api.Delta)) }, deltaVariants(), deltaVariants())
	tryAll(t, "L13: DScale", api.Delta{}, func(a []any) (any, api.Errno) { return lin.DScale(a[0].(api.Delta), a[1].(string)) }, deltaVariants(), append(numberVariants(), variant{"0", api.OK}))
	tryAll(t, "L13: DCmp", 0, func(a []any) (any, api.Errno) { return lin.DCmp(a[0].(api.Delta), a[1].(api.Delta)) }, deltaVariants(), deltaVariants())
	tryAll(t, "L13: At", "", func(a []any) (any, api.Errno) { return lin.At(a[0].(api.Delta), a[1].(string)) }, deltaVariants(), append(numberVariants(), variant{"0", api.OK}, variant{"-1", api.OK}))
	var points, lists []variant
	good := pair("0", "1", "1", "0")
	for _, v := range deltaVariants() {
		d := v.value.(api.Delta)
		points = append(points, variant{deltas(d), v.err}, variant{deltas(delta("1", "1"), delta("0", "0"), delta("0", "0"), d), v.err})
		low, high := api.Pair{Lo: d, Hi: delta("9", "9")}, api.Pair{Lo: delta("-9", "0"), Hi: d}
		lists = append(lists, variant{pairs(good, low), v.err}, variant{pairs(high, good), v.err})
		if v.err != api.OK {
			lists = append(lists, variant{pairs(pair("1", "0", "0", "0"), low), v.err})
		}
	}
	lists = append(lists, variant{pairs(good, pair("1", "0", "0", "0")), api.ErrOrder}, variant{pairs(pair("0", "1", "0", "0"), good), api.ErrOrder})
	tryAll(t, "L13: DValue", api.Delta{}, func(a []any) (any, api.Errno) { return lin.DValue(a[0].(api.Lin), a[1].([]api.Delta)) }, formVariants(), points)
	tryAll(t, "L14: Pick", "", func(a []any) (any, api.Errno) { return lin.Pick(a[0].([]api.Pair)) }, lists)
}
