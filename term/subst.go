package term

import (
	"slices"

	"arbiter/api"
	"arbiter/walk"
)

// Subst puts terms in the place of terms, all at one time.
func (b *Bank) Subst(t int, from, to []int) (int, api.Errno) {
	if err := b.checkSubst(t, from, to); err != api.OK {
		return 0, err
	}
	if len(from) == 0 {
		return t, api.OK
	}
	size := len(b.terms)
	turned, err := b.turn(t, from, to)
	if err != api.OK {
		b.cut(size)
		return 0, err
	}
	return turned, api.OK
}

func (b *Bank) checkSubst(t int, from, to []int) api.Errno {
	if !b.has(t) || !b.has(from...) || !b.has(to...) {
		return api.ErrIndex
	}
	if len(from) != len(to) {
		return api.ErrCount
	}
	for i := range from {
		if b.terms[from[i]].Sort != b.terms[to[i]].Sort {
			return api.ErrSort
		}
	}
	return api.OK
}

// turn makes what t turns into; there is something to be replaced.
func (b *Bank) turn(t int, from, to []int) (int, api.Errno) {
	into := map[int]int{}
	for i := len(from) - 1; i >= 0; i-- { // backwards, so that the first of the same ones counts
		into[from[i]] = to[i]
	}
	// A term is behind all that it is made of: what is ahead of the first that is replaced stays as it is.
	least := slices.Min(from)
	stays := func(u int) bool {
		_, known := into[u]
		return known || u < least
	}
	reached := slices.Sorted(walk.Up([]int{t}, func(u int) []int {
		if stays(u) {
			return nil
		}
		return b.terms[u].Args
	}))
	for _, u := range reached {
		if stays(u) {
			continue
		}
		made, err := b.remake(u, into)
		if err != api.OK {
			return 0, err
		}
		into[u] = made
	}
	return image(t, into), api.OK
}

func image(t int, into map[int]int) int {
	if turned, ok := into[t]; ok {
		return turned
	}
	return t
}

// remake makes a term anew if one of its arguments has turned into another.
func (b *Bank) remake(t int, into map[int]int) (int, api.Errno) {
	old := b.terms[t]
	args := make([]int, len(old.Args))
	for i, a := range old.Args {
		args[i] = image(a, into)
	}
	if slices.Equal(args, old.Args) {
		return t, api.OK
	}
	if old.Op == api.OpApp {
		return b.App(old.Fun, args)
	}
	return b.Op(old.Op, args)
}
