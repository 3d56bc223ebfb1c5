package euf

import "arbiter/api"

// chain is links, and which nodes are the same by them: in a union-find of its own, in which the way from a node to another one is short.
type chain struct {
	classes
	cells map[int]int // by node
	nodes []int       // by cell
	steps []int       // by cell that is no top: the link from its node to that of the cell above
	links []api.Link
}

// Prove tells the chain of reasons why two nodes are the same.
func (g *Graph) Prove(a, b int) ([]api.Link, api.Errno) {
	if !g.has(a, b) {
		return nil, api.ErrNode
	}
	if !g.same(a, b) {
		return nil, api.ErrApart
	}
	c := &chain{cells: map[int]int{}}
	for _, number := range g.reasons(pair{a, b}) {
		j := g.joins[number]
		c.add(j.a, j.b, c.reason(g, j))
	}
	return c.upto(c.why(a, b)), api.OK
}

// reason tells a link for what made one class of two. The joins that it comes from are in the chain already.
func (c *chain) reason(g *Graph, j join) int {
	if j.why != none {
		return c.link(api.Link{Kind: api.LinkGiven, A: j.a, B: j.b, Tag: g.said[j.why].tag})
	}
	l := api.Link{Kind: api.LinkCong, A: j.a, B: j.b}
	others := g.nodes[j.b].Args
	for i, arg := range g.nodes[j.a].Args {
		l.Kids = append(l.Kids, c.why(arg, others[i]))
	}
	return c.link(l)
}

func (c *chain) link(l api.Link) int {
	c.links = append(c.links, l)
	return len(c.links) - 1
}

// turn tells a link that is the one given, turned round.
func (c *chain) turn(link int) int {
	l := c.links[link]
	if l.Kind == api.LinkTurn {
		return l.Kids[0]
	}
	return c.link(api.Link{Kind: api.LinkTurn, A: l.B, B: l.A, Kids: []int{link}})
}

// behind tells a link that is the one given with another behind it, where each of the two may be none.
func (c *chain) behind(first, second int) int {
	if first == none {
		return second
	}
	if second == none {
		return first
	}
	return c.link(api.Link{Kind: api.LinkChain, A: c.links[first].A, B: c.links[second].B, Kids: []int{first, second}})
}

// cell tells the cell of a node.
func (c *chain) cell(node int) int {
	cell, known := c.cells[node]
	if !known {
		cell = c.grow()
		c.cells[node] = cell
		c.nodes = append(c.nodes, node)
		c.steps = append(c.steps, none)
	}
	return cell
}

// why tells a link for two nodes that are the same by the links that there are.
func (c *chain) why(a, b int) int {
	if a == b {
		return c.link(api.Link{Kind: api.LinkSelf, A: a, B: b})
	}
	return c.way(c.cell(a), c.cell(b))
}

// way tells a link from one cell's node to another's, or none, if they are one. The lighter of two cells is not above the other one: so it goes up until they meet.
func (c *chain) way(x, y int) int {
	up, down := none, none
	for x != y {
		if c.weight[x] < c.weight[y] {
			up = c.behind(up, c.steps[x])
			x = c.over[x]
		} else {
			down = c.behind(down, c.steps[y])
			y = c.over[y]
		}
	}
	if down == none {
		return up
	}
	return c.behind(up, c.turn(down))
}

// add makes one class of those of two nodes, by a link.
func (c *chain) add(a, b, link int) {
	x, y := c.cell(a), c.cell(b)
	first, second := c.find(x), c.find(y)
	step := c.behind(c.behind(c.way(first, x), link), c.way(y, second))
	low, _ := c.join(first, second)
	if low != first {
		step = c.turn(step)
	}
	c.steps[low] = step
}

// upto tells the links that the last one of them comes from, and that one.
func (c *chain) upto(last int) []api.Link {
	needed := make([]bool, last+1)
	needed[last] = true
	for i := last; i >= 0; i-- {
		if needed[i] {
			for _, kid := range c.links[i].Kids {
				needed[kid] = true
			}
		}
	}
	var links []api.Link
	number := make([]int, last+1)
	for i, l := range c.links[:last+1] {
		if needed[i] {
			for k, kid := range l.Kids {
				l.Kids[k] = number[kid]
			}
			number[i] = len(links)
			links = append(links, l)
		}
	}
	return links
}
