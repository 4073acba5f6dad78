package query

import (
	"iter"
	"slices"

	"hedgelayer/api"
)

// leafRule is the Rule of a leaf.
const leafRule = -1

// whole is a tree with its parts in order.
type whole []part

// part is a part of a tree, with where it is.
type part struct {
	*api.Tree     // in the memory of the tree
	above     int // the index of the part whose Kid it is
	kid       int // which one of the Kids
	count     int // how many parts it has: those within it come next behind it
}

func wholeOf(t *api.Tree) whole {
	var w whole
	w.add(t, 0, 0)
	return w
}

// add adds a part and those within it.
func (w *whole) add(t *api.Tree, above, kid int) {
	at := len(*w)
	*w = append(*w, part{Tree: t, above: above, kid: kid})
	for i := range t.Kids {
		w.add(&t.Kids[i], at, i)
	}
	(*w)[at].count = len(*w) - at
}

// path is where a part stands.
func (w whole) path(at int) []int {
	var path []int
	for at > 0 {
		path = append(path, w[at].kid)
		at = w[at].above
	}
	slices.Reverse(path)
	return path
}

// from are the parts around one, and then all from it on.
func (w whole) from(at int) iter.Seq[int] {
	return func(yield func(int) bool) {
		var around []int
		for above := at; above > 0; {
			above = w[above].above
			around = append(around, above)
		}
		for _, above := range slices.Backward(around) {
			if !yield(above) {
				return
			}
		}
		for ; at < len(w); at++ {
			if !yield(at) {
				return
			}
		}
	}
}

// partAt is the part at a path, in the memory of t; false if there is none.
func partAt(t *api.Tree, path []int) (*api.Tree, bool) {
	for _, i := range path {
		if i < 0 || i >= len(t.Kids) {
			return nil, false
		}
		t = &t.Kids[i]
	}
	return t, true
}

// put is a tree with another part at a path, which is there. What is not around it stays in the memory of t and of the part.
func put(t api.Tree, path []int, by api.Tree) api.Tree {
	if len(path) == 0 {
		return by
	}
	t.Kids = slices.Clone(t.Kids)
	t.Kids[path[0]] = put(t.Kids[path[0]], path[1:], by)
	return t
}

// firstLeaf is the path of the first leaf of a tree; false if it has none.
func firstLeaf(t api.Tree) ([]int, bool) {
	if t.Rule == leafRule {
		return nil, true
	}
	for i, kid := range t.Kids {
		if path, ok := firstLeaf(kid); ok {
			return append([]int{i}, path...), true
		}
	}
	return nil, false
}

// copied is an equal tree in memory of its own.
func copied(t api.Tree) api.Tree {
	kids := slices.Grow([]api.Tree(nil), len(t.Kids))
	for _, kid := range t.Kids {
		kids = append(kids, copied(kid))
	}
	t.Kids = kids
	return t
}

// alike reports whether trees are equal but for Leads.
func alike(a, b *api.Tree) bool {
	if a.Rule != b.Rule || a.Token.Kind != b.Token.Kind || a.Token.Text != b.Token.Text || len(a.Kids) != len(b.Kids) {
		return false
	}
	for i := range a.Kids {
		if !alike(&a.Kids[i], &b.Kids[i]) {
			return false
		}
	}
	return true
}
