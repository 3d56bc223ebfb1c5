package walk_test

import (
	"slices"
	"testing"

	"arbiter/walk"
)

func TestUp(t *testing.T) {
	parts := [][]int{nil, {0}, {1, 0, 1}, {0, 2}, nil, {4, 3}}
	of := func(thing int) []int { return parts[thing] }
	for _, c := range []struct{ roots, want []int }{
		{nil, nil},
		{[]int{4}, []int{4}},
		{[]int{2}, []int{0, 1, 2}},
		{[]int{5}, []int{4, 0, 1, 2, 3, 5}},
		{[]int{3, 5, 3}, []int{0, 1, 2, 3, 4, 5}},
		{[]int{4, 1, 4}, []int{4, 0, 1}},
	} {
		if got := slices.Collect(walk.Up(c.roots, of)); !slices.Equal(got, c.want) {
			t.Errorf("Up(%v) goes %v, want %v", c.roots, got, c.want)
		}
	}
	if !slices.Equal(parts[2], []int{1, 0, 1}) {
		t.Errorf("the parts are %v", parts[2])
	}
}

func TestUpEndsEarly(t *testing.T) {
	var got []int
	for thing := range walk.Up([]int{9}, func(thing int) []int { return []int{thing - 1}[:min(1, thing)] }) {
		got = append(got, thing)
		if thing == 3 {
			break
		}
	}
	if !slices.Equal(got, []int{0, 1, 2, 3}) {
		t.Errorf("up to 3: %v", got)
	}
}

func TestUpIsDeep(t *testing.T) {
	const deep = 2000000
	count := 0
	for range walk.Up([]int{deep}, func(thing int) []int { return []int{thing - 1}[:min(1, thing)] }) {
		count++
	}
	if count != deep+1 {
		t.Errorf("%d things, want %d", count, deep+1)
	}
}
