package gram

import (
	"slices"

	"hedgelayer/api"
)

// theEnd stands for the end of a word in a set of kinds; a set has the bit 1<<kind for each kind, which the bits of an uint64 suffice for.
const theEnd uint64 = 1 << api.MaxKinds

// Nullable are the Lefts that derive the empty word.
func Nullable(g api.Grammar) ([]string, api.Errno) {
	n, err := numbered(g)
	if err != api.OK {
		return nil, err
	}
	least := n.lengths()
	return n.lefts(func(symbol int) bool { return least[symbol] == 0 }), api.OK
}

// Barren are the Lefts that derive no word.
func Barren(g api.Grammar) ([]string, api.Errno) {
	n, err := numbered(g)
	if err != api.OK {
		return nil, err
	}
	least := n.lengths()
	return n.lefts(func(symbol int) bool { return least[symbol] == noWord }), api.OK
}

// Unreached are the Lefts that are in no list that Start derives.
func Unreached(g api.Grammar) ([]string, api.Errno) {
	n, err := numbered(g)
	if err != api.OK {
		return nil, err
	}
	reached := n.reached()
	return n.lefts(func(symbol int) bool { return !reached[symbol] }), api.OK
}

// Loops are the Lefts that derive themselves.
func Loops(g api.Grammar) ([]string, api.Errno) {
	n, err := numbered(g)
	if err != api.OK {
		return nil, err
	}
	loops := n.loops()
	return n.lefts(func(symbol int) bool { return loops[symbol] }), api.OK
}

// Trimmed is a grammar without rules that are in no word.
func Trimmed(g api.Grammar) (api.Grammar, api.Errno) {
	n, err := numbered(g)
	if err != api.OK {
		return api.Grammar{}, err
	}
	if n.lengths()[n.start] == noWord {
		return api.Grammar{}, api.ErrNone
	}
	t := api.Grammar{Kinds: slices.Clone(g.Kinds), Start: g.Start}
	for _, r := range n.trimmed().rules {
		from := g.Rules[r.index]
		from.Right = slices.Clone(from.Right)
		t.Rules = append(t.Rules, from)
	}
	return t, api.OK
}

// First are the kinds with which words of a list begin.
func First(g api.Grammar, symbols []string) ([]string, bool, api.Errno) {
	n, err := numbered(g)
	if err != api.OK {
		return nil, false, err
	}
	if len(symbols) > api.MaxRight {
		return nil, false, api.ErrLarge
	}
	list := make([]int, len(symbols))
	for i, name := range symbols {
		symbol, ok := n.symbol(name)
		if !ok {
			return nil, false, api.ErrNone
		}
		list[i] = symbol
	}
	least := n.lengths()
	set := begins(n.firsts(least), least, list)
	return n.members(set), total(least, list) == 0, api.OK
}

// Follow are the kinds that can stand behind a Left.
func Follow(g api.Grammar, symbol string) ([]string, bool, api.Errno) {
	n, err := numbered(g)
	if err != api.OK {
		return nil, false, err
	}
	left, ok := n.symbol(symbol)
	if !ok || left < n.kinds {
		return nil, false, api.ErrNone
	}
	set := n.follows()[left]
	return n.members(set), set&theEnd != 0, api.OK
}

// members are the kinds of a set, rising.
func (n grammar) members(set uint64) []string {
	var list []string
	for kind := range n.kinds {
		if set&(1<<kind) != 0 {
			list = append(list, n.names[kind])
		}
	}
	return list
}

// reached tells of each symbol whether it is in a list that Start derives.
func (n grammar) reached() []bool {
	reached := make([]bool, len(n.names))
	reached[n.start] = true
	settle(func() bool {
		changed := false
		for _, r := range n.rules {
			for _, symbol := range r.right {
				if reached[r.left] && !reached[symbol] {
					reached[symbol] = true
					changed = true
				}
			}
		}
		return changed
	})
	return reached
}

// trimmed is the grammar without the rules of no word; Start is not barren.
func (n grammar) trimmed() grammar {
	least := n.lengths()
	fruitful := n.only(func(r rule) bool { return total(least, r.right) != noWord })
	reached := fruitful.reached()
	return fruitful.only(func(r rule) bool { return reached[r.left] })
}

// loops tells of each symbol whether it derives itself in at least one replacement.
func (n grammar) loops() []bool {
	alone := n.alone()
	loops := make([]bool, len(n.names))
	for symbol := range loops {
		seen := make([]bool, len(n.names))
		work := slices.Clone(alone[symbol])
		for len(work) > 0 {
			last := work[len(work)-1]
			work = work[:len(work)-1]
			if !seen[last] {
				seen[last] = true
				work = append(work, alone[last]...)
			}
		}
		loops[symbol] = seen[symbol]
	}
	return loops
}

// alone are, for each Left, the symbols of Rights of which all others can become empty: those that the Left derives alone.
func (n grammar) alone() [][]int {
	least := n.lengths()
	alone := make([][]int, len(n.names))
	for _, r := range n.rules {
		for i, symbol := range r.right {
			if total(least, r.right[:i]) == 0 && total(least, r.right[i+1:]) == 0 {
				alone[r.left] = append(alone[r.left], symbol)
			}
		}
	}
	return alone
}

// firsts are, for each symbol, the sets of kinds with which it begins.
func (n grammar) firsts(least []int) []uint64 {
	firsts := make([]uint64, len(n.names))
	for kind := range n.kinds {
		firsts[kind] = 1 << kind
	}
	settle(func() bool {
		changed := false
		for _, r := range n.rules {
			set := firsts[r.left] | begins(firsts, least, r.right)
			changed = changed || set != firsts[r.left]
			firsts[r.left] = set
		}
		return changed
	})
	return firsts
}

// begins is the set of kinds with which a list of symbols begins.
func begins(firsts []uint64, least, list []int) uint64 {
	var set uint64
	for _, symbol := range list {
		set |= firsts[symbol]
		if least[symbol] != 0 {
			break
		}
	}
	return set
}

// follows are, for each symbol, the sets of kinds (and the end) that stand behind it.
func (n grammar) follows() []uint64 {
	least, reached := n.lengths(), n.reached()
	firsts := n.firsts(least)
	follows := make([]uint64, len(n.names))
	follows[n.start] = theEnd
	settle(func() bool {
		changed := false
		for _, r := range n.rules {
			if reached[r.left] && pass(follows, firsts, least, r) {
				changed = true
			}
		}
		return changed
	})
	return follows
}

// pass adds to the follows of the symbols of a Right what stands behind them there; true if something was new.
func pass(follows, firsts []uint64, least []int, r rule) bool {
	changed := false
	behind := follows[r.left]
	for _, symbol := range slices.Backward(r.right) {
		set := follows[symbol] | behind
		changed = changed || set != follows[symbol]
		follows[symbol] = set
		if least[symbol] == 0 {
			behind |= firsts[symbol]
		} else {
			behind = firsts[symbol]
		}
	}
	return changed
}
