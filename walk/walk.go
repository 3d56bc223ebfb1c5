// Package walk goes through things that are made of others, by their numbers, for the layers whose terms share parts and nest deeper than calls should.
package walk

import "iter"

// visit is a thing that is being gone through.
type visit struct {
	thing int
	parts []int
	next  int
}

// Up goes through the roots and all that they are made of, each thing once, behind all its parts: the roots in their order, the parts from the left. Nothing may be a part of itself.
func Up(roots []int, parts func(thing int) []int) iter.Seq[int] {
	return func(yield func(int) bool) {
		seen := map[int]struct{}{}
		var open []visit
		enter := func(thing int) {
			if _, ok := seen[thing]; !ok {
				seen[thing] = struct{}{}
				open = append(open, visit{thing: thing, parts: parts(thing)})
			}
		}
		for _, root := range roots {
			enter(root)
			for len(open) > 0 {
				top := &open[len(open)-1]
				if top.next < len(top.parts) {
					top.next++
					enter(top.parts[top.next-1])
					continue
				}
				thing := top.thing
				open = open[:len(open)-1]
				if !yield(thing) {
					return
				}
			}
		}
	}
}
