package gram

import (
	"math/bits"

	"hedgelayer/api"
)

const (
	mostTrees = 1_000_000_000
	moreTrees = mostTrees + 1 // stands for all numbers above mostTrees; its square is an int
)

// Derives reports whether a word is in the language of a grammar.
func Derives(g api.Grammar, word []string) (bool, api.Errno) {
	n, err := numbered(g)
	if err != api.OK {
		return false, err
	}
	tokens, err := n.tokens(word)
	if err != api.OK {
		return false, err
	}
	return n.derives(tokens), api.OK
}

// Trees is how many derivation trees a word has.
func Trees(g api.Grammar, word []string) (int, api.Errno) {
	n, err := numbered(g)
	if err != api.OK {
		return 0, err
	}
	tokens, err := n.tokens(word)
	if err != api.OK {
		return 0, err
	}
	barren := n.lengths()[n.start] == noWord
	if !barren {
		n = n.trimmed()
	}
	if n.endless() {
		return 0, api.ErrState
	}
	if barren {
		return 0, api.OK
	}
	trees := newCounter(n, tokens).trees(n.start, 0, len(tokens))
	if trees == moreTrees {
		return 0, api.ErrFull
	}
	return trees, api.OK
}

// endless reports whether a Left that is neither barren nor unreached derives itself.
func (n grammar) endless() bool {
	least, reached, loops := n.lengths(), n.reached(), n.loops()
	for symbol, loop := range loops {
		if loop && reached[symbol] && least[symbol] != noWord {
			return true
		}
	}
	return false
}

// derives finds, from the last token to the first one, where what a symbol derives can end if it begins there.
// Sets of ends have the bit 1<<end, which the bits of an uint64 suffice for.
func (n grammar) derives(tokens []int) bool {
	ends := make([][]uint64, len(tokens)+1)
	for from := len(tokens); from >= 0; from-- {
		here := make([]uint64, len(n.names))
		ends[from] = here
		if from < len(tokens) {
			here[tokens[from]] = 1 << (from + 1)
		}
		settle(func() bool {
			changed := false
			for _, r := range n.rules {
				set := here[r.left] | through(ends, r.right, from)
				changed = changed || set != here[r.left]
				here[r.left] = set
			}
			return changed
		})
	}
	return ends[0][n.start]&(1<<len(tokens)) != 0
}

// through is where a list of symbols can end that begins at from.
func through(ends [][]uint64, list []int, from int) uint64 {
	places := uint64(1) << from
	for _, symbol := range list {
		var next uint64
		for ; places != 0; places &= places - 1 {
			next |= ends[bits.TrailingZeros64(places)][symbol]
		}
		places = next
	}
	return places
}

// counter counts the trees of the parts of a grammar in which no Left derives itself.
type counter struct {
	grammar
	tokens []int
	parts  []part
	wholes [][]int // for each symbol the parts that are Rights of its rules
	empty  []bool  // for each symbol whether a Right of its rules is empty
	known  [][]int // for each part what has been counted, by from and to; -1 if it has not
}

func newCounter(n grammar, tokens []int) *counter {
	parts := n.parts()
	c := &counter{grammar: n, tokens: tokens, parts: parts}
	c.wholes = make([][]int, len(n.names))
	c.empty = make([]bool, len(n.names))
	c.known = make([][]int, len(parts))
	for i, p := range parts {
		if p.whole {
			c.wholes[p.left] = append(c.wholes[p.left], i)
		}
	}
	for _, left := range n.empties() {
		c.empty[left] = true
	}
	return c
}

// trees is in how many ways part i becomes the tokens from from on, ahead of to; at most moreTrees.
func (c *counter) trees(i, from, to int) int {
	if to-from < c.parts[i].least {
		return 0
	}
	if i < c.kinds {
		if to-from == 1 && c.tokens[from] == i {
			return 1
		}
		return 0
	}
	if c.known[i] == nil {
		c.known[i] = unknown(len(c.tokens) + 1)
	}
	known, at := c.known[i], from*(len(c.tokens)+1)+to
	if known[at] < 0 {
		count := c.count(i, from, to)
		known[at] = count
	}
	return known[at]
}

func unknown(width int) []int {
	list := make([]int, width*width)
	for i := range list {
		list[i] = -1
	}
	return list
}

// count is what trees tells. A part asks for the same tokens again only below Lefts that derive one another alone, which ends.
func (c *counter) count(i, from, to int) int {
	if i < len(c.names) {
		return c.ofRules(i, from, to)
	}
	p := c.parts[i]
	if p.front < 0 {
		return c.trees(p.back, from, to)
	}
	count := 0
	for middle := from + c.parts[p.front].least; middle <= to-c.parts[p.back].least; middle++ {
		front := c.trees(p.front, from, middle)
		if front == 0 {
			continue
		}
		back := c.trees(p.back, middle, to)
		count = min(count+front*back, moreTrees)
	}
	return count
}

// ofRules is the count of a Left: the sum of those of its rules.
func (c *counter) ofRules(left, from, to int) int {
	count := 0
	if c.empty[left] && from == to {
		count = 1
	}
	for _, whole := range c.wholes[left] {
		trees := c.trees(whole, from, to)
		count = min(count+trees, moreTrees)
	}
	return count
}
