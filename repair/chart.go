package repair

import (
	"hedgelayer/api"
)

// Costs can be greater than any int, so those above mostCost, which no nearest word has, are all told as tooGreat.
const (
	mostCost = 1 << 50
	tooGreat = mostCost + 1
	never    = tooGreat + 1 // there is no way
)

// prices tell what it costs to make the tokens of a word from from on, ahead of to, a word of one kind, or the empty word.
type prices struct {
	kind func(kind, from, to int) int
	none func(from, to int) int
}

// chart has the least costs of making some tokens of a word what a part becomes.
type chart struct {
	grammar
	prices prices
	long   int     // how many tokens the word has
	costs  [][]int // for each part by spans
}

func newChart(n grammar, long int, p prices) *chart {
	c := &chart{grammar: n, prices: p, long: long, costs: make([][]int, n.parts())}
	spans := c.span(long, long) + 1
	for part := range c.costs {
		c.costs[part] = make([]int, spans)
		for span := range spans {
			c.costs[part][span] = never
		}
	}
	c.eachSpan(func(from, to int) {
		c.begin(from, to)
		settle(func() bool { return c.spread(from, to) })
	})
	return c
}

// span is the number of the span from from on, ahead of to.
func (c *chart) span(from, to int) int { return from*(c.long+1) + to }

// eachSpan visits all spans, the shorter ones first.
func (c *chart) eachSpan(visit func(from, to int)) {
	for wide := range c.long + 1 {
		for from := range c.long - wide + 1 {
			visit(from, from+wide)
		}
	}
}

// settle repeats a step until it changes nothing.
func settle(step func() bool) {
	for step() {
	}
}

// cost is the least cost of a part.
func (c *chart) cost(part, from, to int) int { return c.costs[part][c.span(from, to)] }

// total is the least cost of the whole word.
func (c *chart) total() int { return c.cost(c.start, 0, c.long) }

// joined is the least cost of a pair whose front has the tokens ahead of middle.
func (c *chart) joined(p pair, from, middle, to int) int {
	front, back := c.cost(p.front, from, middle), c.cost(p.back, middle, to)
	if front == never || back == never {
		return never
	}
	return min(front+back, tooGreat)
}

// lower takes a cost of a part if it is less than the least one so far.
func (c *chart) lower(part, from, to, cost int) bool {
	least := &c.costs[part][c.span(from, to)]
	if cost >= *least {
		return false
	}
	*least = cost
	return true
}

// begin finds what does not depend on other parts of the same span.
func (c *chart) begin(from, to int) {
	for symbol := range c.names {
		if symbol < c.kinds {
			c.lower(symbol, from, to, c.prices.kind(symbol, from, to))
		} else if c.empty[symbol] {
			c.lower(symbol, from, to, c.prices.none(from, to))
		}
	}
	for i, p := range c.pairs {
		for middle := from + 1; middle < to; middle++ {
			c.lower(len(c.names)+i, from, to, c.joined(p, from, middle, to))
		}
	}
}

// spread takes costs from parts of a span to others of the same one.
func (c *chart) spread(from, to int) bool {
	changed := false
	for i, p := range c.pairs {
		cost := min(c.joined(p, from, from, to), c.joined(p, from, to, to))
		changed = c.lower(len(c.names)+i, from, to, cost) || changed
	}
	for left := c.kinds; left < len(c.names); left++ {
		for _, whole := range c.whole[left] {
			changed = c.lower(left, from, to, c.cost(whole, from, to)) || changed
		}
	}
	return changed
}

// repairing are the prices of fixes.
func repairing(tokens []int, p api.Prices) prices {
	return prices{
		kind: func(kind, from, to int) int {
			insert := (to-from)*p.Delete + p.Insert
			if from == to {
				return insert
			}
			// One token can stay, or be replaced.
			others := (to - from - 1) * p.Delete
			for _, token := range tokens[from:to] {
				if token == kind {
					return others
				}
			}
			return min(others+p.Replace, insert)
		},
		none: func(from, to int) int { return (to - from) * p.Delete },
	}
}

// filling are the prices of putting tokens into a word where this is possible; all of its tokens stay.
func filling(tokens []int, possible func(at int) bool) prices {
	return prices{
		kind: func(kind, from, to int) int {
			switch {
			case from == to && possible(from):
				return 1
			case to-from == 1 && tokens[from] == kind:
				return 0
			}
			return never
		},
		none: func(from, to int) int {
			if from == to {
				return 0
			}
			return never
		},
	}
}
