package table

import (
	"slices"

	"hedgelayer/api"
)

// What is done if something comes.
const (
	shifted = iota
	reduced
	conflict
)

// choices are what could be done in a state if something comes.
type choices struct {
	rules []int // those that could be reduced, rising
	shift bool  // it could be shifted
	level int   // the greatest one of the rules of items that it could be shifted in
}

// deed is what is done in a state if something comes.
type deed struct {
	ahead   int
	what    int
	rule    int   // the one that is reduced
	byLevel bool  // levels have decided, and no conflict is left
	rules   []int // those that could be reduced; in a conflict with the shift alone, the one that is left
	shift   bool  // it could be shifted
}

// deeds are what is done in a state, for all that can come there, rising.
func (n *grammar) deeds(s state) []deed {
	var list []deed
	for ahead, c := range n.choices(s.items) {
		if len(c.rules) > 0 || c.shift {
			d := n.decide(c)
			d.ahead = ahead
			list = append(list, d)
		}
	}
	return list
}

// choices are told for the end and for each kind.
func (n *grammar) choices(items []item) []choices {
	list := make([]choices, len(n.given.Kinds)+1)
	for _, x := range items {
		symbol, ok := n.next(x)
		if !ok {
			for ahead := range x.ahead.all() {
				list[ahead].rules = append(list[ahead].rules, x.rule)
			}
		} else if kind := n.ofKind[symbol]; kind != 0 {
			list[kind].shift = true
			list[kind].level = max(list[kind].level, n.level(x.rule))
		}
	}
	return list
}

// decide lets levels decide between choices, of which there is at least one.
func (n *grammar) decide(c choices) deed {
	d := deed{rules: c.rules, shift: c.shift}
	if len(c.rules) == 0 {
		return d
	}
	rule, ok := n.strongest(c.rules)
	if !ok {
		d.what = conflict
		return d
	}
	level := n.level(rule)
	switch {
	case c.shift && (level == 0 || c.level == 0):
		d.what = conflict
		d.rules = []int{rule}
		return d
	case !c.shift || level >= c.level:
		d.what = reduced
		d.rule = rule
	}
	d.byLevel = c.shift || len(c.rules) > 1
	return d
}

// strongest is the only one of some rules, or the one with the greatest level, if no other one has it; otherwise false.
// Levels are not below 0, so the greatest one of several rules is above 0 if just one of them has it.
func (n *grammar) strongest(rules []int) (int, bool) {
	best, times := 0, 0
	for _, rule := range rules {
		switch level := n.level(rule); {
		case times == 0 || level > n.level(best):
			best, times = rule, 1
		case level == n.level(best):
			times++
		}
	}
	return best, times == 1
}

// made is a state with what is done in it; false if there is a conflict.
func (n *grammar) made(s state) (api.State, bool) {
	var x api.State
	var kinds aheads // those that are shifted
	for _, d := range n.deeds(s) {
		switch d.what {
		case conflict:
			return api.State{}, false
		case shifted:
			kinds |= only(d.ahead)
		case reduced:
			x.Reduces = append(x.Reduces, api.Reduce{Ahead: n.aheadName(d.ahead), Rule: d.rule})
		}
	}
	for _, to := range s.moves {
		if kind := n.ofKind[to.symbol]; kind == 0 || kinds.has(kind) {
			x.Moves = append(x.Moves, api.Move{Symbol: n.names[to.symbol], To: to.to})
		}
	}
	return x, true
}

// nothing stands for a rule where none is reduced.
const nothing = -2

// most is the rule that stands in most reduces, of several the least one.
func most(reduces []api.Reduce) int {
	count := map[int]int{}
	for _, r := range reduces {
		count[r.Rule]++
	}
	best := nothing
	for _, r := range reduces {
		more := count[r.Rule] - count[best]
		if more > 0 || more == 0 && r.Rule < best {
			best = r.Rule
		}
	}
	return best
}

// mostPlaces are how many places can be told.
const mostPlaces = 5_000

// places are the conflicts, or other places of a table of which holds is true, with their words.
func places(g api.Grammar, kind int, holds func(d deed) bool) ([]api.Conflict, api.Errno) {
	m, err := newMachine(g, kind)
	if err != api.OK {
		return nil, err
	}
	var list []api.Conflict
	for i, s := range m.states {
		for _, d := range m.deeds(s) {
			if holds(d) {
				list = append(list, api.Conflict{State: i, Ahead: m.aheadName(d.ahead), Shift: d.shift, Rules: slices.Clone(d.rules)})
			}
		}
	}
	if len(list) > mostPlaces {
		return nil, api.ErrFull
	}
	word := m.words()
	for i := range list {
		list[i].Word, err = word(list[i].State)
		if err != api.OK {
			return nil, err
		}
	}
	return list, api.OK
}
