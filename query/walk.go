package query

import (
	"iter"

	"hedgelayer/api"
)

// within are a query and those in its Args, in order, each one with its path, which is good only until the next one comes.
func within(q api.Query) iter.Seq2[[]int, api.Query] {
	return func(yield func([]int, api.Query) bool) {
		walk(nil, q, yield)
	}
}

// walk goes through the query at a path and those in its Args, until yield is false.
func walk(path []int, q api.Query, yield func([]int, api.Query) bool) bool {
	if !yield(path, q) {
		return false
	}
	for i, arg := range q.Args {
		if !walk(append(path, i), arg, yield) {
			return false
		}
	}
	return true
}

// noSort is the sort of a query that has none, and what is wanted where none is.
const noSort = ""

// place is a query within another one, with what is asked of it there.
type place struct {
	api.Query
	wanted string // the sort that is wanted of it
	denied bool   // whether it is within a QueryNot
}

// places are a query, of which a sort is wanted, and those in its Args, in order. The rules of all of them have been checked.
func places(g api.Grammar, q api.Query, wanted string) iter.Seq[place] {
	return func(yield func(place) bool) {
		place{Query: q, wanted: wanted}.walk(g, yield)
	}
}

// walk goes through the query at a place and those in its Args, until yield is false.
func (p place) walk(g api.Grammar, yield func(place) bool) bool {
	if !yield(p) {
		return false
	}
	for i := range p.Args {
		if !p.arg(g, i).walk(g, yield) {
			return false
		}
	}
	return true
}

// arg is the place of an Arg.
func (p place) arg(g api.Grammar, i int) place {
	arg := place{Query: p.Args[i], denied: p.denied || p.Op == api.QueryNot}
	switch p.Op {
	case api.QueryNode:
		arg.wanted = g.Rules[p.Rule].Right[i]
	case api.QueryEither, api.QueryNot:
		arg.wanted = p.wanted
	}
	return arg
}

// hasWanted reports whether the query has the sort that is wanted of it, if it has one, and one is wanted.
func (p place) hasWanted(g api.Grammar) bool {
	sort := sortOf(g, p.Query)
	return sort == noSort || p.wanted == noSort || sort == p.wanted
}

// standsFor is the sort of the query, or the one that is wanted of it.
func (p place) standsFor(g api.Grammar) string {
	if sort := sortOf(g, p.Query); sort != noSort {
		return sort
	}
	return p.wanted
}

// sortOf is the sort of a query whose rules have been checked.
func sortOf(g api.Grammar, q api.Query) string {
	switch q.Op {
	case api.QueryLeaf:
		return q.Kind
	case api.QueryNode:
		return g.Rules[q.Rule].Left
	case api.QueryEither:
		if sort := sortOf(g, q.Args[0]); sort == sortOf(g, q.Args[1]) {
			return sort
		}
	}
	return noSort
}
