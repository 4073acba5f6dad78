package query

import (
	"slices"
	"strings"

	"hedgelayer/api"
	"hedgelayer/tree"
)

// Fits reports whether a query fits a whole tree, and with what.
func Fits(g api.Grammar, q api.Query, t api.Tree) ([]api.Bound, bool, api.Errno) {
	if err := checkBoth(g, q, t); err != api.OK {
		return nil, false, err
	}
	w := wholeOf(&t)
	b, ok := w.fitOf(q).first(0)
	if !ok {
		return nil, false, api.OK
	}
	return w.result(b), true, api.OK
}

// Find are all parts that a query fits.
func Find(g api.Grammar, q api.Query, t api.Tree) ([]api.Match, api.Errno) {
	if err := checkBoth(g, q, t); err != api.OK {
		return nil, err
	}
	w := wholeOf(&t)
	all := w.findAll(q)
	if len(all) > api.MaxFound {
		return nil, api.ErrFull
	}
	var list []api.Match
	for _, f := range all {
		list = append(list, api.Match{Path: w.path(f.at), Bounds: w.result(f.bounds)})
	}
	return list, api.OK
}

// Count is how many parts a query fits.
func Count(g api.Grammar, q api.Query, t api.Tree) (int, api.Errno) {
	if err := checkBoth(g, q, t); err != api.OK {
		return 0, err
	}
	return len(wholeOf(&t).findAll(q)), api.OK
}

// checkBoth checks a query and a tree of a grammar.
func checkBoth(g api.Grammar, q api.Query, t api.Tree) api.Errno {
	if err := Check(g, q); err != api.OK {
		return err
	}
	return tree.Check(g, t)
}

// bound is a name with the part that it names.
type bound struct {
	name string
	at   int
}

// bounds are in the order in which they have been found; no two of them have the same name.
type bounds []bound

// found is a part that a query fits, with the first bounds.
type found struct {
	at int
	bounds
}

// findAll are all parts that a query fits.
func (w whole) findAll(q api.Query) []found {
	f := w.fitOf(q)
	var list []found
	for at := range w {
		if b, ok := f.first(at); ok {
			list = append(list, found{at, b})
		}
	}
	return list
}

// result are bounds with their parts, rising by Name.
func (w whole) result(b bounds) []api.Bound {
	var list []api.Bound
	for _, x := range b {
		list = append(list, api.Bound{Name: x.name, Part: copied(*w[x.at].Tree)})
	}
	slices.SortFunc(list, func(x, y api.Bound) int { return strings.Compare(x.Name, y.Name) })
	return list
}

// fit reports whether a query fits a part of a tree, and adds its first bounds. If it does not fit, what it has added means nothing.
//
// The names within a QueryEither or a QueryDeep are bound nowhere else. So its first bounds go with all that is outside of it, and no other ones need be tried.
type fit func(at int, b *bounds) bool

// first are the first bounds with which the query fits a part; false if it does not.
func (f fit) first(at int) (bounds, bool) {
	var b bounds
	if !f(at, &b) {
		return nil, false
	}
	return b, true
}

// fitOf is how a query fits the parts of a tree.
func (w whole) fitOf(q api.Query) fit {
	var args []fit
	for _, arg := range q.Args {
		args = append(args, w.fitOf(arg))
	}
	f := w.fitOfOp(q, args)
	if q.Bind == "" {
		return f
	}
	return func(at int, b *bounds) bool {
		return w.bind(b, bound{q.Bind, at}) && f(at, b)
	}
}

// fitOfOp is how a query fits without its own name.
func (w whole) fitOfOp(q api.Query, args []fit) fit {
	switch q.Op {
	case api.QueryLeaf:
		return func(at int, _ *bounds) bool {
			return w[at].Token.Kind == q.Kind && (q.Text == "" || w[at].Token.Text == q.Text)
		}
	case api.QueryNode:
		return w.fitOfNode(q.Rule, args)
	case api.QueryEither:
		return fitOfEither(args[0], args[1])
	case api.QueryNot:
		return func(at int, _ *bounds) bool {
			_, ok := args[0].first(at)
			return !ok
		}
	case api.QueryDeep:
		return w.fitOfDeep(args[0])
	}
	return func(int, *bounds) bool { return true }
}

// bind adds a bound; false if the name has a part that is not alike.
func (w whole) bind(b *bounds, by bound) bool {
	for _, x := range *b {
		if x.name == by.name {
			return alike(w[x.at].Tree, w[by.at].Tree)
		}
	}
	*b = append(*b, by)
	return true
}

// fitOfNode fits nodes with as many Kids as there are args.
func (w whole) fitOfNode(rule int, args []fit) fit {
	return func(at int, b *bounds) bool {
		if w[at].Rule != rule {
			return false
		}
		kid := at + 1
		for _, arg := range args {
			if !arg(kid, b) {
				return false
			}
			kid += w[kid].count
		}
		return true
	}
}

func fitOfEither(first, second fit) fit {
	return func(at int, b *bounds) bool {
		before := len(*b)
		if first(at, b) {
			return true
		}
		*b = (*b)[:before]
		return second(at, b)
	}
}

func (w whole) fitOfDeep(arg fit) fit {
	var next []int
	return func(at int, b *bounds) bool {
		// All parts are asked once, and not again for each part that they are within.
		if next == nil {
			next = w.nextOf(arg)
		}
		return next[at] < at+w[at].count && arg(next[at], b)
	}
}

// nextOf is for each part the first one from it on that a query fits; if there is none, how many parts there are.
func (w whole) nextOf(f fit) []int {
	next := make([]int, len(w))
	after := len(w)
	for at := len(w) - 1; at >= 0; at-- {
		if _, ok := f.first(at); ok {
			after = at
		}
		next[at] = after
	}
	return next
}
