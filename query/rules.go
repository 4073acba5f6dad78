package query

import (
	"cmp"
	"slices"

	"hedgelayer/api"
)

// Covers reports whether a query covers another one.
func Covers(g api.Grammar, p, q api.Query) (bool, api.Errno) {
	if err := checkPlain(g, p, q); err != api.OK {
		return false, err
	}
	return covers(p, q), api.OK
}

func covers(p, q api.Query) bool {
	switch {
	case p.Op == api.QueryAny:
		return true
	case p.Op != q.Op:
		return false
	case p.Op == api.QueryLeaf:
		return p.Kind == q.Kind && (p.Text == "" || p.Text == q.Text)
	}
	return p.Rule == q.Rule && slices.EqualFunc(p.Args, q.Args, covers)
}

// checkPlain checks two queries, which must be plain.
func checkPlain(g api.Grammar, p, q api.Query) api.Errno {
	both := []api.Query{p, q}
	for _, x := range both {
		if err := Check(g, x); err != api.OK {
			return err
		}
	}
	for _, x := range both {
		if !isPlain(x) {
			return api.ErrState
		}
	}
	return api.OK
}

func isPlain(q api.Query) bool {
	for _, part := range within(q) {
		if part.Op != api.QueryAny && part.Op != api.QueryLeaf && part.Op != api.QueryNode {
			return false
		}
	}
	for _, count := range names(q) {
		if count > 1 {
			return false
		}
	}
	return true
}

// Unify is a query that fits what two fit.
func Unify(g api.Grammar, p, q api.Query) (api.Query, bool, api.Errno) {
	if err := checkPlain(g, p, q); err != api.OK {
		return api.Query{}, false, err
	}
	if !unify(p, q) {
		return api.Query{}, false, api.OK
	}
	return unified(p, q), true, api.OK
}

// unify reports whether there are trees of the shape of both.
func unify(p, q api.Query) bool {
	switch {
	case p.Op == api.QueryAny || q.Op == api.QueryAny:
		return true
	case p.Op != q.Op:
		return false
	case p.Op == api.QueryLeaf:
		return p.Kind == q.Kind && (p.Text == "" || q.Text == "" || p.Text == q.Text)
	}
	return p.Rule == q.Rule && slices.EqualFunc(p.Args, q.Args, unify)
}

// unified is a query, without names, that fits the trees of the shape of both, which unify.
func unified(p, q api.Query) api.Query {
	switch {
	case p.Op == api.QueryAny:
		p = q
	case q.Op == api.QueryAny:
		q = p
	}
	both := api.Query{Op: p.Op, Kind: p.Kind, Text: cmp.Or(p.Text, q.Text), Rule: p.Rule}
	for i, arg := range p.Args {
		both.Args = append(both.Args, unified(arg, q.Args[i]))
	}
	return both
}

// Overlaps are the places at which rules get into each other's way.
func Overlaps(g api.Grammar, l []api.Swap) ([]api.Overlap, api.Errno) {
	if err := checkSwaps(g, l); err != api.OK {
		return nil, err
	}
	for _, s := range l {
		if !isPlain(s.From) {
			return nil, api.ErrState
		}
	}
	var list []api.Overlap
	for i, first := range l {
		for j, second := range l {
			for _, path := range overlaps(first.From, second.From) {
				if i != j || len(path) > 0 {
					list = append(list, api.Overlap{First: i, Second: j, Path: path})
				}
			}
		}
	}
	return list, api.OK
}

// overlaps are the paths of queries within p that are no QueryAny and that unify with q.
func overlaps(p, q api.Query) [][]int {
	var paths [][]int
	for path, part := range within(p) {
		if part.Op != api.QueryAny && unify(part, q) {
			paths = append(paths, slices.Clone(path))
		}
	}
	return paths
}
