package gram

// part is what words are put together of: a symbol, or the first symbols (at least one) of a Right.
// Only least has a meaning for a symbol. In a list of parts the symbols come first, by their numbers.
type part struct {
	least int  // the length of its shortest word
	front int  // the part that is all of its symbols but the last one; -1 if there are no others
	back  int  // its last symbol
	left  int  // the Left of the rule
	rest  int  // the length of the shortest word of the symbols behind it in the Right
	whole bool // whether there are no symbols behind it
}

// parts are all symbols, and behind them, rule by rule, the first symbols of each Right, fewer before more.
func (n grammar) parts() []part {
	least := n.lengths()
	var parts []part
	for _, long := range least {
		parts = append(parts, part{least: long})
	}
	for _, r := range n.rules {
		front := -1
		for i, symbol := range r.right {
			ahead, rest := r.right[:i+1], r.right[i+1:]
			parts = append(parts, part{total(least, ahead), front, symbol, r.left, total(least, rest), len(rest) == 0})
			front = len(parts) - 1
		}
	}
	return parts
}

// empties are the Lefts of rules whose Right is empty.
func (n grammar) empties() []int {
	var lefts []int
	for _, r := range n.rules {
		if len(r.right) == 0 {
			lefts = append(lefts, r.left)
		}
	}
	return lefts
}
