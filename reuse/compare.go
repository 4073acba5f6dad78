package reuse

import (
	"hedgelayer/api"
)

// comparison is an old tree and the new one, with what is kept.
type comparison struct {
	old, now whole
	kept     []pair // the outermost parts that are kept, in order
	changed  []int  // the nodes of the new tree that are neither kept nor within a part that is kept
}

// pair is a part of each of two trees, by their indices.
type pair struct{ old, now int }

// compare parses again, and compares the trees.
func compare(g api.Grammar, old api.Tree, now []api.Token) (comparison, api.Errno) {
	t, _, err := Again(g, old, now)
	if err != api.OK {
		return comparison{}, err
	}
	c := comparison{old: wholeOf(old), now: wholeOf(t)}
	stays := c.undamaged()
	for at := 0; at < len(c.now.parts); {
		p := c.now.parts[at]
		from, ok := stays[place{p.tokens, p.count}]
		if ok && equal(c.old.parts[from].Tree, p.Tree) {
			c.kept = append(c.kept, pair{from, at})
			at += p.count
			continue
		}
		if !isLeaf(p.Tree) {
			c.changed = append(c.changed, at)
		}
		at++
	}
	return c, api.OK
}

// place is what a part spans in the new tree, and how many parts it has. Those that span the same tokens stand within one another, so no two of them in one tree have as many parts.
type place struct {
	tokens api.Range
	count  int
}

// undamaged are the parts of the old tree whose tokens are all kept ahead, or all kept behind, by their places.
func (c comparison) undamaged() map[place]int {
	before, after := damage(c.old.tokens, c.now.tokens)
	stays := map[place]int{}
	for at, p := range c.old.parts {
		far := 0
		if p.tokens.From >= before.To {
			far = after.To - before.To
		} else if p.tokens.To > before.From {
			continue
		}
		if p.width() > 0 {
			stays[place{api.Range{From: p.tokens.From + far, To: p.tokens.To + far}, p.count}] = at
		}
	}
	return stays
}
