package table

import (
	"slices"

	"hedgelayer/api"
	"hedgelayer/gram"
)

// accepting is the rule that is one more: its Right is Start alone, and it has no Left.
const accepting = -1

// grammar is a grammar that has been checked, with numbers in the place of symbols. All symbols, kinds and Lefts, rise with their numbers.
type grammar struct {
	given  api.Grammar
	names  []string
	number map[string]int
	ofLeft [][]int // for each symbol the rules of which it is the Left
	ofKind []int   // for each symbol that is a kind, its number among what can come; 0 for Lefts
	added  rule    // the rule accepting
	rules  []rule
}

// rule is a rule of a grammar.
type rule struct {
	level  int
	right  []int
	behind []begin // for each symbol of right, what the symbols behind it begin with
}

// begin is with what a list of symbols begins, and whether it can become empty.
type begin struct {
	set   aheads
	empty bool
}

// newGrammar makes a grammar of one that has been checked.
func newGrammar(g api.Grammar) *grammar {
	lefts, _ := gram.Lefts(g)
	n := &grammar{given: g, names: slices.Concat(g.Kinds, lefts), number: map[string]int{}}
	slices.Sort(n.names)
	for i, name := range n.names {
		n.number[name] = i
	}
	n.ofLeft = make([][]int, len(n.names))
	n.ofKind = make([]int, len(n.names))
	for i, kind := range g.Kinds {
		n.ofKind[n.number[kind]] = i + 1
	}
	begins := n.begins()
	for i, r := range g.Rules {
		left := n.number[r.Left]
		n.ofLeft[left] = append(n.ofLeft[left], i)
		n.rules = append(n.rules, n.newRule(r, begins))
	}
	n.added = n.newRule(api.Rule{Right: []string{g.Start}}, begins)
	return n
}

// begins returns a function that tells with what a symbol begins. It keeps what it has told, as gram.First looks at the whole grammar each time.
func (n *grammar) begins() func(symbol int) begin {
	known := map[int]begin{}
	return func(symbol int) begin {
		if kind := n.ofKind[symbol]; kind != 0 {
			return begin{set: only(kind)}
		}
		told, ok := known[symbol]
		if !ok {
			first, empty, _ := gram.First(n.given, []string{n.names[symbol]})
			told.empty = empty
			for _, kind := range first {
				told.set |= only(n.ofKind[n.number[kind]])
			}
			known[symbol] = told
		}
		return told
	}
}

func (n *grammar) newRule(r api.Rule, begins func(symbol int) begin) rule {
	x := rule{level: r.Level, right: make([]int, len(r.Right)), behind: make([]begin, len(r.Right))}
	rest := begin{empty: true}
	for i, name := range slices.Backward(r.Right) {
		x.right[i], x.behind[i] = n.number[name], rest
		first := begins(x.right[i])
		if first.empty {
			first.set |= rest.set
			first.empty = rest.empty
		}
		rest = first
	}
	return x
}

// rule is the rule with a number.
func (n *grammar) rule(number int) rule {
	if number == accepting {
		return n.added
	}
	return n.rules[number]
}

// level is the level of the rule with a number.
func (n *grammar) level(number int) int { return n.rule(number).level }

// aheadName is the name of what comes: of a kind, or of the end.
func (n *grammar) aheadName(ahead int) string {
	if ahead == theEnd {
		return ""
	}
	return n.given.Kinds[ahead-1]
}
