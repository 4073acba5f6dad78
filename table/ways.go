package table

import (
	"slices"

	"hedgelayer/api"
	"hedgelayer/gram"
)

// way is the last move of a shortest list of symbols to a state.
type way struct{ from, symbol int }

// ways are, for each state, those of the least one of the shortest lists; for state 0 there is none.
// States are gone through in the order of their lists: so the first move to a state is that of the least list.
func (m machine) ways() []way {
	ways := make([]way, len(m.states))
	seen := make([]bool, len(m.states))
	seen[0] = true
	order := []int{0}
	for i := 0; i < len(order); i++ {
		for _, x := range m.states[order[i]].moves {
			if !seen[x.to] {
				seen[x.to] = true
				ways[x.to] = way{order[i], x.symbol}
				order = append(order, x.to)
			}
		}
	}
	return ways
}

// along are the symbols on the way to a state.
func along(ways []way, state int) []int {
	var list []int
	for state != 0 {
		list = append(list, ways[state].symbol)
		state = ways[state].from
	}
	slices.Reverse(list)
	return list
}

// words returns a function that tells the shortest word to a state.
func (m machine) words() func(state int) ([]string, api.Errno) {
	ways := m.ways()
	shortest := m.shortest()
	return func(state int) ([]string, api.Errno) {
		list := along(ways, state)
		long := 0
		for _, symbol := range list {
			word, err := shortest(symbol)
			if err != api.OK {
				return nil, err
			}
			long += len(word)
		}
		if long > api.MaxTokens {
			return nil, api.ErrFull
		}
		var all []string
		for _, symbol := range list {
			word, _ := shortest(symbol)
			all = append(all, word...)
		}
		return all, api.OK
	}
}

// shortest returns a function that tells the shortest word of a symbol. It keeps what it has told, as gram.Shortest looks at the whole grammar each time.
func (n *grammar) shortest() func(symbol int) ([]string, api.Errno) {
	type told struct {
		word []string
		err  api.Errno
	}
	known := map[int]told{}
	return func(symbol int) ([]string, api.Errno) {
		x, ok := known[symbol]
		if !ok {
			x.word, x.err = gram.Shortest(n.given, n.names[symbol])
			known[symbol] = x
		}
		return x.word, x.err
	}
}
