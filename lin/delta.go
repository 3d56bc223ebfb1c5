package lin

import "arbiter/api"

// DAdd tells a + b.
func DAdd(a, b api.Delta) (api.Delta, api.Errno) {
	if err := checkDeltas(a, b); err != api.OK {
		return api.Delta{}, err
	}
	plain := number{a.A}.plus(number{b.A})
	small := number{a.B}.plus(number{b.B})
	return api.Delta{A: plain.text, B: small.text}, api.OK
}

// DScale tells c times a.
func DScale(a api.Delta, c string) (api.Delta, api.Errno) {
	if err := first(checkDeltas(a), checkNumbers(c)); err != api.OK {
		return api.Delta{}, err
	}
	plain := number{a.A}.times(number{c})
	small := number{a.B}.times(number{c})
	return api.Delta{A: plain.text, B: small.text}, api.OK
}

// DCmp tells whether a is below b (-1), b (0), or above it (1).
func DCmp(a, b api.Delta) (int, api.Errno) {
	if err := checkDeltas(a, b); err != api.OK {
		return 0, err
	}
	return compareDeltas(a, b), api.OK
}

func compareDeltas(a, b api.Delta) int {
	if order := (number{a.A}).compare(number{b.A}); order != 0 {
		return order
	}
	return number{a.B}.compare(number{b.B})
}

// DValue tells what f is where the variable i is at[i].
func DValue(f api.Lin, at []api.Delta) (api.Delta, api.Errno) {
	if err := first(Check(f), checkDeltas(at...)); err != api.OK {
		return api.Delta{}, err
	}
	plain := func(d api.Delta) string { return d.A }
	small := func(d api.Delta) string { return d.B }
	bare := api.Lin{M: f.M, K: zero.text}
	return api.Delta{A: value(f, partAt(at, plain)).text, B: value(bare, partAt(at, small)).text}, api.OK
}

// partAt tells the point of one part of each delta number.
func partAt(at []api.Delta, part func(api.Delta) string) point {
	return func(v int) number {
		if v < len(at) {
			return number{part(at[v])}
		}
		return zero
	}
}

// At tells what a is where the small number is d.
func At(a api.Delta, d string) (string, api.Errno) {
	if err := first(checkDeltas(a), checkNumbers(d)); err != api.OK {
		return "", err
	}
	return number{a.A}.plus(number{a.B}.times(number{d})).text, api.OK
}

// Pick tells the greatest small number up to 1 that keeps each pair in order.
func Pick(pairs []api.Pair) (string, api.Errno) {
	for _, p := range pairs {
		if err := checkDeltas(p.Lo, p.Hi); err != api.OK {
			return "", err
		}
	}
	least := one
	for _, p := range pairs {
		if compareDeltas(p.Lo, p.Hi) > 0 {
			return "", api.ErrOrder
		}
		room := number{p.Hi.A}.minus(number{p.Lo.A})
		closing := number{p.Lo.B}.minus(number{p.Hi.B})
		if room.sign() <= 0 || closing.sign() <= 0 {
			continue
		}
		if meet := room.over(closing); meet.compare(least) < 0 {
			least = meet
		}
	}
	return least.text, api.OK
}
