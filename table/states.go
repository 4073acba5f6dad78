package table

import (
	"cmp"
	"slices"

	"hedgelayer/api"
	"hedgelayer/gram"
)

// item is several items: those with the same rule and dot, and all that can come behind.
type item struct {
	rule, dot int
	ahead     aheads
}

// move leads by a symbol to a state.
type move struct{ symbol, to int }

// state has items by rule, then dot, and moves by symbol.
type state struct {
	items []item
	moves []move
}

// machine is the states of a grammar.
type machine struct {
	*grammar
	states []state
}

// newMachine makes the states of a kind of table; a machine without states with an error.
func newMachine(g api.Grammar, kind int) (machine, api.Errno) {
	if err := gram.Check(g); err != api.OK {
		return machine{}, err
	}
	if kind != api.TableFull && kind != api.TableMerged {
		return machine{}, api.ErrKind
	}
	full, ok := newGrammar(g).full()
	if !ok {
		return machine{}, api.ErrFull
	}
	if kind == api.TableMerged {
		merged, _ := full.merged()
		return merged, api.OK
	}
	return full, api.OK
}

// full is the machine of TableFull; false if it has too many states.
func (n *grammar) full() (machine, bool) {
	m := machine{grammar: n}
	known := map[string]int{}
	numberOf := func(kernel []item) int {
		key := keyOf(kernel, true)
		number, ok := known[key]
		if !ok {
			number = len(m.states)
			known[key] = number
			m.states = append(m.states, state{items: n.closure(kernel)})
		}
		return number
	}
	numberOf([]item{{accepting, 0, only(theEnd)}})
	for i := 0; i < len(m.states); i++ {
		var moves []move
		for symbol, kernel := range n.moved(m.states[i].items) {
			if len(kernel) > 0 {
				to := numberOf(kernel)
				moves = append(moves, move{symbol, to})
			}
		}
		m.states[i].moves = moves
		if len(m.states) > api.MaxStates {
			return machine{}, false
		}
	}
	return m, true
}

// moved are, for each symbol, the items whose dot stands before it, with the dot behind it.
// No other items of the sets that are found have a dot behind a symbol: so these alone tell the sets apart.
func (n *grammar) moved(items []item) [][]item {
	kernels := make([][]item, len(n.names))
	for _, x := range items {
		if symbol, ok := n.next(x); ok {
			kernels[symbol] = append(kernels[symbol], item{x.rule, x.dot + 1, x.ahead})
		}
	}
	return kernels
}

// next is the symbol behind the dot; false if the dot is at the end.
func (n *grammar) next(x item) (int, bool) {
	right := n.rule(x.rule).right
	if x.dot == len(right) {
		return 0, false
	}
	return right[x.dot], true
}

// closure is the closure of the items that a move leads to, or of those with which all begins.
func (n *grammar) closure(kernel []item) []item {
	behind := make([]aheads, len(n.names)) // for each Left what can come behind it
	work := slices.Clone(kernel)
	for len(work) > 0 {
		last := work[len(work)-1]
		work = work[:len(work)-1]
		symbol, ok := n.next(last)
		if !ok || n.ofKind[symbol] != 0 {
			continue
		}
		set := n.after(last)
		if set&^behind[symbol] != 0 {
			behind[symbol] |= set
			work = n.begun(work, symbol, behind[symbol])
		}
	}
	items := slices.Clone(kernel)
	for left, set := range behind {
		if set != 0 {
			items = n.begun(items, left, set)
		}
	}
	slices.SortFunc(items, func(a, b item) int {
		return cmp.Or(cmp.Compare(a.rule, b.rule), cmp.Compare(a.dot, b.dot))
	})
	return items
}

// after is what can come behind the symbol that is behind the dot.
func (n *grammar) after(x item) aheads {
	rest := n.rule(x.rule).behind[x.dot]
	if rest.empty {
		return rest.set | x.ahead
	}
	return rest.set
}

// begun puts the items of all rules of a Left, with the dot at 0, behind others.
func (n *grammar) begun(items []item, left int, ahead aheads) []item {
	for _, number := range n.ofLeft[left] {
		items = append(items, item{number, 0, ahead})
	}
	return items
}

// keyOf is a string that only equal lists of items share, or, without what comes, lists that are the same but for it.
func keyOf(items []item, withAhead bool) string {
	var key []byte
	for _, x := range items {
		key = append(key, byte(x.rule), byte(x.dot))
		for shift := 0; withAhead && shift < 64; shift += 8 {
			key = append(key, byte(x.ahead>>shift))
		}
	}
	return string(key)
}

// merged is the machine of TableMerged, and for each state of the full one its number there.
func (m machine) merged() (machine, []int) {
	small := machine{grammar: m.grammar}
	numbers := make([]int, len(m.states))
	known := map[string]int{}
	for i, s := range m.states {
		key := keyOf(s.items, false)
		number, ok := known[key]
		if !ok {
			number = len(small.states)
			known[key] = number
			small.states = append(small.states, state{slices.Clone(s.items), slices.Clone(s.moves)})
		}
		for j, x := range s.items {
			small.states[number].items[j].ahead |= x.ahead
		}
		numbers[i] = number
	}
	for _, s := range small.states {
		for j := range s.moves {
			s.moves[j].to = numbers[s.moves[j].to]
		}
	}
	return small, numbers
}

// has reports whether there is a state.
func (m machine) has(state int) bool { return state >= 0 && state < len(m.states) }

// next is the state to which a symbol leads; false if there is no move by it.
func (s state) next(symbol int) (int, bool) {
	i, ok := slices.BinarySearchFunc(s.moves, symbol, func(x move, symbol int) int {
		return cmp.Compare(x.symbol, symbol)
	})
	if !ok {
		return 0, false
	}
	return s.moves[i].to, true
}
