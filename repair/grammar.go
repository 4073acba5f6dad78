package repair

import (
	"hedgelayer/api"
	"hedgelayer/gram"
)

// grammar is a grammar with numbers in the place of symbols: first the kinds, then the Lefts, both rising.
// So the order of numbers of kinds is the order of kinds.
// Its parts are what words are put together of: the symbols, and behind them the pairs, which are the first symbols of a Right, two or more of them.
type grammar struct {
	names []string
	kinds int // how many kinds there are: the number of the first Left
	start int
	pairs []pair
	whole [][]int // for each symbol the parts that are Rights of its rules
	empty []bool  // for each symbol whether a Right of its rules is empty
}

// pair is a part that is one part (all of its symbols but the last one), and behind it a symbol.
type pair struct{ front, back int }

// numbered numbers what can be in words of a grammar that has been checked, and has some: so it can be trimmed.
func numbered(g api.Grammar) grammar {
	g, _ = gram.Trimmed(g)
	lefts, _ := gram.Lefts(g)
	n := grammar{names: append(g.Kinds, lefts...), kinds: len(g.Kinds)}
	n.whole = make([][]int, len(n.names))
	n.empty = make([]bool, len(n.names))
	number := map[string]int{}
	for i, name := range n.names {
		number[name] = i
	}
	n.start = number[g.Start]
	known := map[pair]int{}
	for _, r := range g.Rules {
		left := number[r.Left]
		if len(r.Right) == 0 {
			n.empty[left] = true
			continue
		}
		part := number[r.Right[0]]
		for _, symbol := range r.Right[1:] {
			part = n.pair(known, pair{part, number[symbol]})
		}
		n.whole[left] = append(n.whole[left], part)
	}
	return n
}

// pair is the part that is a pair; beginnings of Rights that are equal are one part.
func (n *grammar) pair(known map[pair]int, p pair) int {
	part, ok := known[p]
	if !ok {
		part = len(n.names) + len(n.pairs)
		n.pairs = append(n.pairs, p)
		known[p] = part
	}
	return part
}

// parts is how many parts there are.
func (n *grammar) parts() int { return len(n.names) + len(n.pairs) }

// pairOf is the pair that a part is; false if it is a symbol.
func (n *grammar) pairOf(part int) (pair, bool) {
	if part < len(n.names) {
		return pair{}, false
	}
	return n.pairs[part-len(n.names)], true
}

// tokens are the numbers of the kinds of a word.
func (n *grammar) tokens(word []string) []int {
	tokens := make([]int, len(word))
	for i, kind := range word {
		for tokens[i] < n.kinds && n.names[tokens[i]] != kind {
			tokens[i]++
		}
	}
	return tokens
}

// coded is the code of a word of one kind. The code of a word has a byte for each kind, its number: so codes of words with as many tokens are ordered as the words.
func coded(kind int) string {
	return string([]byte{byte(kind)})
}

// decoded is the word with a code.
func (n *grammar) decoded(code string) []string {
	word := make([]string, len(code))
	for i := range len(code) {
		word[i] = n.names[code[i]]
	}
	return word
}
