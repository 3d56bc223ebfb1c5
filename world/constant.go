package world

import (
	"arbiter/api"
	"arbiter/num"
	"arbiter/rat"
)

// constant is a constant that is being read. Lists nest as deep as the text is long, so the open ones stand on a stack. What it tells is worked out at the end, from the numbers above the line and those below it: list by list, a long number would be reckoned with as often as lists nest.
type constant struct {
	*reader
	open  []list
	zeros []bool // of each number or list that was read in the open lists: whether it is 0
	sides [2][]rat.Rat
	neg   bool
}

// list is an opposite or a quotient.
type list struct {
	at      int
	end     int // the node behind it
	side    int // of the line: 0 above, 1 below
	divisor int // where the divisor stands; of an opposite behind it
}

// read reads the constant there.
func (c *constant) read(at int) rat.Rat {
	end := at + c.nodes[at].Size
	for at < end {
		at = c.enter(at)
		c.leave(at)
	}
	q := rat.Product(c.sides[0]...).Quo(rat.Product(c.sides[1]...))
	if c.neg {
		return q.Neg()
	}
	return q
}

// enter reads a number, or opens a list, and tells where the next constant stands.
func (c *constant) enter(at int) int {
	side := c.side(at)
	end := at + c.nodes[at].Size
	if q, ok := c.literal(at); ok {
		c.sides[side] = append(c.sides[side], q)
		c.zeros = append(c.zeros, q.Sign() == 0)
	} else if things, ok := c.behind(at, api.KindSymbol, "-", 1); ok {
		c.neg = !c.neg
		c.open = append(c.open, list{at, end, side, end})
		return things[0]
	} else if things, ok := c.behind(at, api.KindSymbol, "/", 2); ok {
		c.open = append(c.open, list{at, end, side, things[1]})
		return things[0]
	} else {
		c.fail(api.ErrSyntax, at)
	}
	return end
}

// side tells on which side of the line the thing there stands.
func (c *constant) side(at int) int {
	if len(c.open) == 0 {
		return 0
	}
	top := c.open[len(c.open)-1]
	if at < top.divisor {
		return top.side
	}
	return 1 - top.side
}

// leave closes the lists that end there.
func (c *constant) leave(at int) {
	for len(c.open) > 0 && c.open[len(c.open)-1].end == at {
		top := c.open[len(c.open)-1]
		c.open = c.open[:len(c.open)-1]
		if top.divisor == top.end {
			continue
		}
		last := len(c.zeros) - 1
		if c.zeros[last] {
			c.fail(api.ErrZero, top.at)
		}
		c.zeros = c.zeros[:last]
	}
}

// literal tells the number that a numeral or a decimal is.
func (c *constant) literal(at int) (rat.Rat, bool) {
	n := c.nodes[at]
	if n.Kind != api.KindNumeral && n.Kind != api.KindDecimal {
		return rat.Rat{}, false
	}
	text, _ := num.Read(n.Text)
	return rat.Parse(text)
}
