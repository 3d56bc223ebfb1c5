package euf

import "arbiter/api"

// sig is the two parts of an application, as cells or as tops of their classes.
type sig struct {
	begin, last int
}

// join is what made one class of two.
type join struct {
	a, b int
	why  int // the Equal that says so, or none: by congruence
	low  int // the top that is no top any more
}

// form is what nodes have in common that are alike in form.
type form struct {
	fun, count int
}

// build makes a graph of nodes that are sound, and keeps the list.
func build(nodes []api.Flat) *Graph {
	g := &Graph{nodes: nodes, sigs: map[sig]int{}, last: map[int]int{}, clash: none}
	for range nodes {
		g.cell()
	}
	heads := map[form]int{}
	for i, node := range nodes {
		if node.Fun >= 0 {
			g.lay(i, heads)
		}
	}
	g.filed = nil // these entries stay, whatever is taken back
	return g
}

// cell adds a cell to all that is kept by cells.
func (g *Graph) cell() int {
	g.parts = append(g.parts, sig{none, none})
	g.uses.grow()
	g.differs.grow()
	g.tree.grow()
	return g.classes.grow()
}

// lay makes the cells of a node's application, or finds that it is the same as an earlier one.
func (g *Graph) lay(node int, heads map[form]int) {
	args := g.nodes[node].Args
	kind := form{g.nodes[node].Fun, len(args)}
	head, known := heads[kind]
	if !known && len(args) > 0 {
		head = g.cell()
	} else if !known {
		head = node
	}
	heads[kind] = head
	if len(args) > 0 {
		head = g.enter(node, g.begin(head, args[:len(args)-1]), args[len(args)-1])
	}
	if head != node {
		g.unite(join{a: node, b: head, why: none}, nil)
	}
}

// begin tells the cell of a function at its first arguments.
func (g *Graph) begin(head int, args []int) int {
	for _, arg := range args {
		head = g.enter(none, head, arg)
	}
	return head
}

// enter tells the application of these parts that there is; if there is none, it is this cell, or a new one.
func (g *Graph) enter(cell, begin, last int) int {
	key := sig{g.find(begin), g.find(last)}
	if other, known := g.sigs[key]; known {
		return other
	}
	if cell == none {
		cell = g.cell()
	}
	g.parts[cell] = sig{begin, last}
	g.file(key, cell)
	for _, top := range []int{key.begin, key.last} {
		g.uses.add(top, cell)
		g.weight[top]++
	}
	return cell
}

func (g *Graph) file(key sig, cell int) {
	g.sigs[key] = cell
	g.filed = append(g.filed, key)
}

// say takes in an Equal or a Differ of nodes, and all that follows.
func (g *Graph) say(s saying) {
	before, known := g.last[s.tag]
	if !known {
		before = none
	}
	s.before, s.joins, s.filed, s.clash = before, len(g.joins), len(g.filed), g.clash
	number := len(g.said)
	g.last[s.tag] = number
	g.said = append(g.said, s)
	if s.differ {
		g.hold(s.a, s.b, number)
	} else {
		g.merge(s.a, s.b, number)
	}
}

// hold keeps two nodes apart.
func (g *Graph) hold(a, b, number int) {
	if g.clash == none && g.same(a, b) {
		g.clash = number
	}
	g.differs.add(g.find(a), end{b, number})
	g.differs.add(g.find(b), end{a, number})
}

// merge makes two cells the same, and what is so by congruence then.
func (g *Graph) merge(a, b, why int) {
	queue := []join{{a: a, b: b, why: why}}
	for len(queue) > 0 {
		next := queue[len(queue)-1]
		queue = queue[:len(queue)-1]
		if !g.same(next.a, next.b) {
			queue = g.unite(next, queue)
		}
	}
}

// unite makes one class of the two that a join speaks of, and puts the joins that follow at the queue's end.
func (g *Graph) unite(j join, queue []join) []join {
	if g.clash == none {
		g.clash = g.between(j.a, j.b)
	}
	x := g.find(j.a)
	low, top := g.classes.join(x, g.find(j.b))
	j.low = low
	if low == x {
		g.hang(j.a, j.b, len(g.joins))
	} else {
		g.hang(j.b, j.a, len(g.joins))
	}
	g.joins = append(g.joins, j)
	// The entries under the old signatures stay: they are not asked for while low is no top, and right again when it is one.
	for cell := range g.uses.all(low) {
		key := sig{g.find(g.parts[cell].begin), g.find(g.parts[cell].last)}
		other, known := g.sigs[key]
		if !known {
			g.file(key, cell)
		} else if !g.same(cell, other) {
			queue = append(queue, join{a: cell, b: other, why: none})
		}
	}
	g.uses.join(low, top)
	g.differs.join(low, top)
	return queue
}

// between tells a Differ that stands between the classes of two cells, or none.
func (g *Graph) between(a, b int) int {
	x, y := g.find(a), g.find(b)
	if g.differs.size[x] > g.differs.size[y] {
		x, y = y, x
	}
	for e := range g.differs.all(x) {
		if g.find(e.other) == y {
			return e.saying
		}
	}
	return none
}

// unsay takes the last saying back.
func (g *Graph) unsay() {
	number := len(g.said) - 1
	s := g.said[number]
	if s.differ {
		g.differs.drop(g.find(s.b))
		g.differs.drop(g.find(s.a))
	}
	for len(g.joins) > s.joins {
		g.part()
	}
	for _, key := range g.filed[s.filed:] {
		delete(g.sigs, key)
	}
	g.filed = g.filed[:s.filed]
	g.clash = s.clash
	if s.before == none {
		delete(g.last, s.tag)
	} else {
		g.last[s.tag] = s.before
	}
	g.said = g.said[:number]
}

// part takes the last join back.
func (g *Graph) part() {
	number := len(g.joins) - 1
	j := g.joins[number]
	top := g.classes.split(j.low)
	g.differs.split(j.low, top)
	g.uses.split(j.low, top)
	g.cut(j.a, j.b, number)
	g.joins = g.joins[:number]
}
