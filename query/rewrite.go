package query

import (
	"hedgelayer/api"
	"hedgelayer/tree"
)

// At rewrites a part.
func At(g api.Grammar, s api.Swap, t api.Tree, path []int) (api.Tree, bool, api.Errno) {
	if err := CheckSwap(g, s); err != api.OK {
		return api.Tree{}, false, err
	}
	if err := tree.Check(g, t); err != api.OK {
		return api.Tree{}, false, err
	}
	part, ok := partAt(&t, path)
	if !ok {
		return api.Tree{}, false, api.ErrNone
	}
	w := wholeOf(part)
	b, ok := w.fitOf(s.From).first(0)
	if !ok {
		return copied(t), false, api.OK
	}
	result := put(t, path, w.rewritten(found{0, b}, s.To))
	if err := tree.CheckTree(result); err != api.OK {
		return api.Tree{}, false, err
	}
	return copied(result), true, api.OK
}

// Once rewrites the first part that a rule fits.
func Once(g api.Grammar, l []api.Swap, t api.Tree) (api.Tree, api.Done, bool, api.Errno) {
	if err := checkSwaps(g, l); err != api.OK {
		return api.Tree{}, api.Done{}, false, err
	}
	if err := tree.Check(g, t); err != api.OK {
		return api.Tree{}, api.Done{}, false, err
	}
	r := rewriter{rules: l, tree: t}
	u, ok := r.next()
	if !ok {
		return copied(t), api.Done{}, false, api.OK
	}
	done, err := r.apply(u)
	if err != api.OK {
		return api.Tree{}, api.Done{}, false, err
	}
	return copied(r.tree), done, true, api.OK
}

// Rewrite rewrites again and again.
func Rewrite(g api.Grammar, l []api.Swap, t api.Tree, most int) (api.Tree, []api.Done, bool, api.Errno) {
	if err := checkSwaps(g, l); err != api.OK {
		return api.Tree{}, nil, false, err
	}
	if most < 0 || most > api.MaxRewrites {
		return api.Tree{}, nil, false, api.ErrArg
	}
	if err := tree.Check(g, t); err != api.OK {
		return api.Tree{}, nil, false, err
	}
	r := rewriter{rules: l, tree: t}
	var list []api.Done
	for {
		u, ok := r.next()
		if !ok || len(list) == most {
			return copied(r.tree), list, !ok, api.OK
		}
		done, err := r.apply(u)
		if err != api.OK {
			return api.Tree{}, nil, false, err
		}
		list = append(list, done)
	}
}

// rewriter rewrites a tree step by step. Its tree can have parts in the memory of those before it.
type rewriter struct {
	rules []api.Swap
	tree  api.Tree
	whole     // the parts of the tree
	last  int // where the last step was
}

// use is a part that the From of a rule fits.
type use struct {
	swap int
	found
}

// next is the first part that the From of some rule fits, and the first such rule; false if there is none.
func (r *rewriter) next() (use, bool) {
	r.whole = r.whole[:0]
	r.add(&r.tree, 0, 0)
	var fits []fit
	for _, s := range r.rules {
		fits = append(fits, r.fitOf(s.From))
	}
	// The parts ahead of the last step that are not around it are as they were, when none of them was found.
	for at := range r.from(r.last) {
		for i, f := range fits {
			if b, ok := f.first(at); ok {
				return use{i, found{at, b}}, true
			}
		}
	}
	return use{}, false
}

// apply rewrites a part; it fails if the result is too large.
func (r *rewriter) apply(u use) (api.Done, api.Errno) {
	done := api.Done{Swap: u.swap, Path: r.path(u.at)}
	by := r.rewritten(u.found, r.rules[u.swap].To)
	r.tree = put(r.tree, done.Path, by)
	r.last = u.at
	return done, tree.CheckTree(r.tree)
}

// rewritten is what comes into the place of a part that has been found.
func (w whole) rewritten(f found, form api.Query) api.Tree {
	parts := map[string]api.Tree{}
	for _, x := range f.bounds {
		parts[x.name] = *w[x.at].Tree
	}
	by := build(form, parts)
	path, ok := firstLeaf(by)
	if !ok {
		return by
	}
	leaf, _ := partAt(&by, path)
	first := *leaf
	first.Token.Lead = firstLead(*w[f.at].Tree)
	return put(by, path, first)
}

// firstLead is the Lead of the first token of a tree, an empty one if it has none.
func firstLead(t api.Tree) string {
	path, ok := firstLeaf(t)
	if !ok {
		return ""
	}
	leaf, _ := partAt(&t, path)
	return leaf.Token.Lead
}
