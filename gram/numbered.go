package gram

import (
	"slices"

	"hedgelayer/api"
)

// grammar is a grammar that has been checked, with numbers in the place of symbols: first the kinds, then the Lefts, both rising.
// So the order of numbers of kinds is the order of kinds.
type grammar struct {
	names  []string
	number map[string]int
	kinds  int // how many kinds there are: the number of the first Left
	start  int
	rules  []rule
}

// rule is the rule with the number index of the api.Grammar.
type rule struct {
	index, left int
	right       []int
}

// numbered checks a grammar and numbers its symbols.
func numbered(g api.Grammar) (grammar, api.Errno) {
	if err := Check(g); err != api.OK {
		return grammar{}, err
	}
	n := grammar{number: map[string]int{}, kinds: len(g.Kinds)}
	n.names = append(slices.Clone(g.Kinds), sortedLefts(g.Rules)...)
	for i, name := range n.names {
		n.number[name] = i
	}
	n.start = n.number[g.Start]
	for i, r := range g.Rules {
		right := make([]int, len(r.Right))
		for j, symbol := range r.Right {
			right[j] = n.number[symbol]
		}
		n.rules = append(n.rules, rule{i, n.number[r.Left], right})
	}
	return n, api.OK
}

func sortedLefts(rules []api.Rule) []string {
	var lefts []string
	for _, r := range rules {
		lefts = append(lefts, r.Left)
	}
	slices.Sort(lefts)
	return slices.Compact(lefts)
}

// lefts are the names of the Lefts of which holds is true, rising.
func (n grammar) lefts(holds func(symbol int) bool) []string {
	var list []string
	for symbol := n.kinds; symbol < len(n.names); symbol++ {
		if holds(symbol) {
			list = append(list, n.names[symbol])
		}
	}
	return list
}

// symbol is the number of a symbol; false if there is no such one.
func (n grammar) symbol(name string) (int, bool) {
	symbol, ok := n.number[name]
	return symbol, ok
}

// tokens are the numbers of the kinds of a word that is derived.
func (n grammar) tokens(word []string) ([]int, api.Errno) {
	if len(word) > api.MaxDerive {
		return nil, api.ErrLarge
	}
	tokens := make([]int, len(word))
	for i, kind := range word {
		symbol, ok := n.symbol(kind)
		if !ok || symbol >= n.kinds {
			return nil, api.ErrNone
		}
		tokens[i] = symbol
	}
	return tokens, api.OK
}

// only is the grammar with the rules alone of which holds is true; all symbols keep their numbers.
func (n grammar) only(holds func(r rule) bool) grammar {
	var rules []rule
	for _, r := range n.rules {
		if holds(r) {
			rules = append(rules, r)
		}
	}
	n.rules = rules
	return n
}

// settle repeats a step until it changes nothing.
func settle(step func() bool) {
	for step() {
	}
}
