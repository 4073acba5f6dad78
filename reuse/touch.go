package reuse

import (
	"slices"

	"hedgelayer/api"
	"hedgelayer/parse"
	"hedgelayer/table"
	"hedgelayer/tree"
)

// Fragile are the paths of nodes that an edit of a token can touch.
func Fragile(g api.Grammar, t api.Tree, at int) ([][]int, api.Errno) {
	if err := tree.Check(g, t); err != api.OK {
		return nil, err
	}
	w := wholeOf(t)
	if at < 0 || at > len(w.tokens) {
		return nil, api.ErrArg
	}
	var paths [][]int
	for i, p := range w.parts {
		// A node that spans the token ahead of this one, but not this one, has it as the first one behind.
		touched := p.width() == 0 || p.tokens.From <= at && at <= p.tokens.To
		if touched && !isLeaf(p.Tree) {
			paths = append(paths, w.path(i))
		}
	}
	return paths, api.OK
}

// Safe are the paths of nodes that are reduced whatever comes.
func Safe(g api.Grammar, t api.Tree) ([][]int, api.Errno) {
	if err := tree.Check(g, t); err != api.OK {
		return nil, err
	}
	w := wholeOf(t)
	parsed, _, err := parse.Parse(g, w.tokens)
	if err != api.OK {
		return nil, err
	}
	if !equal(parsed, t) {
		return nil, api.ErrState
	}
	states, err := table.Make(g, api.TableFull)
	if err != api.OK {
		return nil, err
	}
	m := machine{g, states}
	last := m.lastStates(w)
	var paths [][]int
	for at, p := range w.parts {
		if p.width() >= 2 && m.alwaysReduces(last[at], p.Rule) {
			paths = append(paths, w.path(at))
		}
	}
	return paths, api.OK
}

// machine is a grammar with its table.
type machine struct {
	api.Grammar
	states []api.State
}

// lastStates are the states on top of the stack when all Kids of each part have been read: in that of a node its rule is reduced.
func (m machine) lastStates(w whole) []int {
	last := make([]int, len(w.parts))
	// At first last has the states in which the parts begin. Those of Kids are known from the part above, which stands ahead of them.
	for at, p := range w.parts {
		kid := at + 1
		for _, k := range p.Kids {
			last[kid] = last[at]
			last[at] = m.moved(last[at], k)
			kid += w.parts[kid].count
		}
	}
	return last
}

// moved is the state to which a tree leads from a state, where the parser has read it.
func (m machine) moved(state int, t api.Tree) int {
	symbol := t.Token.Kind
	if !isLeaf(t) {
		symbol = m.Rules[t.Rule].Left
	}
	moves := m.states[state].Moves
	return moves[slices.IndexFunc(moves, func(x api.Move) bool { return x.Symbol == symbol })].To
}

// alwaysReduces reports whether a rule is reduced in a state for all for which anything is done.
func (m machine) alwaysReduces(state, rule int) bool {
	shifts := slices.ContainsFunc(m.states[state].Moves, func(x api.Move) bool { return slices.Contains(m.Kinds, x.Symbol) })
	others := slices.ContainsFunc(m.states[state].Reduces, func(x api.Reduce) bool { return x.Rule != rule })
	return !shifts && !others
}
