package euf

import "iter"

// classes is a union-find over cells whose joins can be taken back, the last one first. So no way to a top is made shorter: it stays short since the lighter class is put under the heavier one.
type classes struct {
	over   []int // the cell above; at a top the cell itself
	weight []int // at a top: how much there is to do when the class is put under another one
}

// grow adds a cell, alone in its class.
func (c *classes) grow() int {
	c.over = append(c.over, len(c.over))
	c.weight = append(c.weight, 1)
	return len(c.over) - 1
}

// find tells the top of a cell's class.
func (c *classes) find(cell int) int {
	for c.over[cell] != cell {
		cell = c.over[cell]
	}
	return cell
}

// same tells whether two cells are of one class.
func (c *classes) same(x, y int) bool {
	return c.find(x) == c.find(y)
}

// join makes one class of those of two tops, and tells which one is now below, and which one is the top.
func (c *classes) join(x, y int) (int, int) {
	if c.weight[x] > c.weight[y] {
		x, y = y, x
	}
	c.over[x] = y
	c.weight[y] += c.weight[x]
	return x, y
}

// split takes the last join back, and tells the top under which its lower class was.
func (c *classes) split(low int) int {
	top := c.over[low]
	c.weight[top] -= c.weight[low]
	c.over[low] = low
	return top
}

// rings keeps for each class a ring of entries. Two rings are made one, and two again, by exchanging what comes next to one entry of each: so a join is taken back as fast as it is made, however long the rings are.
type rings[T any] struct {
	entries []entry[T]
	some    []int // by top: an entry of the ring, or none
	size    []int // by top
}

type entry[T any] struct {
	next int
	what T
}

// grow adds a class with nothing in its ring.
func (r *rings[T]) grow() {
	r.some = append(r.some, none)
	r.size = append(r.size, 0)
}

// add puts an entry into the ring of a class.
func (r *rings[T]) add(top int, what T) {
	number := len(r.entries)
	r.entries = append(r.entries, entry[T]{number, what})
	if r.some[top] == none {
		r.some[top] = number
	} else {
		r.exchange(r.some[top], number)
	}
	r.size[top]++
}

// drop takes the last entry out of the ring of the class that it was put into.
func (r *rings[T]) drop(top int) {
	number := len(r.entries) - 1
	if r.some[top] == number {
		r.some[top] = none
	} else {
		r.entries[r.some[top]].next = r.entries[number].next
	}
	r.entries = r.entries[:number]
	r.size[top]--
}

func (r *rings[T]) exchange(x, y int) {
	r.entries[x].next, r.entries[y].next = r.entries[y].next, r.entries[x].next
}

// join puts the ring of the lower class into that of the top.
func (r *rings[T]) join(low, top int) {
	switch {
	case r.some[low] == none:
	case r.some[top] == none:
		r.some[top] = r.some[low]
	default:
		r.exchange(r.some[low], r.some[top])
	}
	r.size[top] += r.size[low]
}

// split takes the last join back.
func (r *rings[T]) split(low, top int) {
	switch {
	case r.some[low] == none:
	case r.some[top] == r.some[low]:
		r.some[top] = none
	default:
		r.exchange(r.some[low], r.some[top])
	}
	r.size[top] -= r.size[low]
}

// all goes round the ring of a class.
func (r *rings[T]) all(top int) iter.Seq[T] {
	return func(yield func(T) bool) {
		at := r.some[top]
		for range r.size[top] {
			if !yield(r.entries[at].what) {
				return
			}
			at = r.entries[at].next
		}
	}
}

// tree keeps for each class the joins that made it, as a tree over its cells: the way in it from one cell to another is why they are the same.
type tree struct {
	toward []int // the next cell on the way to the tree's root, or none
	edge   []int // the join by which it is the same as that one
}

// grow adds a cell, alone in its tree.
func (t *tree) grow() {
	t.toward = append(t.toward, none)
	t.edge = append(t.edge, none)
}

// hang makes one tree of those of two cells, by a join. The first cell's tree is turned so that this cell is its root.
func (t *tree) hang(x, y, join int) {
	for x != none {
		next, edge := t.toward[x], t.edge[x]
		t.toward[x], t.edge[x] = y, join
		x, y, join = next, x, edge
	}
}

// cut takes out a join between two cells. Which of them is nearer to the root may have changed since it came.
func (t *tree) cut(x, y, join int) {
	if t.edge[x] != join {
		x = y
	}
	t.toward[x], t.edge[x] = none, none
}
