package reuse

import (
	"slices"

	"hedgelayer/api"
)

// whole is a tree with its parts in order, and the tokens of its leaves.
type whole struct {
	parts  []part
	tokens []api.Token
}

// part is a part of a tree, with where it is.
type part struct {
	api.Tree           // in the memory of the whole
	above    int       // the index of the part whose Kid it is
	kid      int       // which one of the Kids
	count    int       // how many parts it has: those within it come next behind it
	tokens   api.Range // what it spans
}

func wholeOf(t api.Tree) whole {
	var w whole
	w.add(t, 0, 0)
	return w
}

// add adds a part and those within it.
func (w *whole) add(t api.Tree, above, kid int) {
	at, from := len(w.parts), len(w.tokens)
	w.parts = append(w.parts, part{Tree: t, above: above, kid: kid})
	if isLeaf(t) {
		w.tokens = append(w.tokens, t.Token)
	}
	for i, k := range t.Kids {
		w.add(k, at, i)
	}
	w.parts[at].count = len(w.parts) - at
	w.parts[at].tokens = api.Range{From: from, To: len(w.tokens)}
}

// path is where a part stands.
func (w whole) path(at int) []int {
	var path []int
	for at > 0 {
		path = append(path, w.parts[at].kid)
		at = w.parts[at].above
	}
	slices.Reverse(path)
	return path
}

// find is the part at a path; false if there is none.
func (w whole) find(path []int) (int, bool) {
	at := 0
	for _, i := range path {
		if i < 0 || i >= len(w.parts[at].Kids) {
			return 0, false
		}
		at++
		for range i {
			at += w.parts[at].count
		}
	}
	return at, true
}

// width is how many tokens a part spans.
func (p part) width() int { return p.tokens.To - p.tokens.From }

func isLeaf(t api.Tree) bool { return t.Rule == -1 }

// equal reports whether trees are equal.
func equal(a, b api.Tree) bool {
	return a.Rule == b.Rule && a.Token == b.Token && slices.EqualFunc(a.Kids, b.Kids, equal)
}
