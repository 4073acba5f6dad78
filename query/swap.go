package query

import (
	"hedgelayer/api"
	"hedgelayer/gram"
	"hedgelayer/scan"
	"hedgelayer/tree"
)

// CheckSwap says what is wrong with a rule of rewriting.
func CheckSwap(g api.Grammar, s api.Swap) api.Errno {
	if err := Check(g, s.From); err != api.OK {
		return err
	}
	if s.From.Op != api.QueryLeaf && s.From.Op != api.QueryNode {
		return api.ErrForm
	}
	wanted := sortOf(g, s.From)
	if err := checkForm(g, s.To, wanted); err != api.OK {
		return err
	}
	return checkUses(g, s.To, wanted, sortsOfNames(g, s.From))
}

// checkSwaps says what is wrong with rules of rewriting.
func checkSwaps(g api.Grammar, l []api.Swap) api.Errno {
	if err := gram.Check(g); err != api.OK {
		return err
	}
	if len(l) > api.MaxSwaps {
		return api.ErrLarge
	}
	for _, s := range l {
		if err := CheckSwap(g, s); err != api.OK {
			return err
		}
	}
	return api.OK
}

// checkForm says what is wrong with a form of which a sort is wanted.
func checkForm(g api.Grammar, q api.Query, wanted string) api.Errno {
	if err := CheckQuery(q); err != api.OK {
		return err
	}
	for _, part := range within(q) {
		if !isForm(part) {
			return api.ErrForm
		}
		if err := checkRule(g, part); err != api.OK {
			return err
		}
	}
	for p := range places(g, q, wanted) {
		if !p.hasWanted(g) {
			return api.ErrType
		}
	}
	return api.OK
}

// isForm reports whether a query without those in its Args says of which tree it is the form.
func isForm(q api.Query) bool {
	switch q.Op {
	case api.QueryAny:
		return q.Bind != ""
	case api.QueryLeaf:
		return q.Bind == "" && q.Text != ""
	case api.QueryNode:
		return q.Bind == ""
	}
	return false
}

// checkUses asks whether the names of a form, of which a sort is wanted, have been bound to parts of the sorts that are wanted of them.
func checkUses(g api.Grammar, form api.Query, wanted string, sorts map[string]string) api.Errno {
	for p := range places(g, form, wanted) {
		if p.Op != api.QueryAny {
			continue
		}
		sort, ok := sorts[p.Bind]
		if !ok {
			return api.ErrNone
		}
		if p.wanted != noSort && p.wanted != sort {
			return api.ErrType
		}
	}
	return api.OK
}

// Build makes a tree of a form.
func Build(g api.Grammar, q api.Query, b []api.Bound) (api.Tree, api.Errno) {
	if err := gram.Check(g); err != api.OK {
		return api.Tree{}, err
	}
	if err := checkForm(g, q, noSort); err != api.OK {
		return api.Tree{}, err
	}
	sorts, err := checkBounds(g, b)
	if err != api.OK {
		return api.Tree{}, err
	}
	if err := checkUses(g, q, noSort, sorts); err != api.OK {
		return api.Tree{}, err
	}
	parts := map[string]api.Tree{}
	for _, x := range b {
		parts[x.Name] = x.Part
	}
	t := build(q, parts)
	if err := tree.CheckTree(t); err != api.OK {
		return api.Tree{}, err
	}
	return copied(t), api.OK
}

// checkBounds says what is wrong with bounds, or the symbols of their parts.
func checkBounds(g api.Grammar, b []api.Bound) (map[string]string, api.Errno) {
	if len(b) > api.MaxQueries {
		return nil, api.ErrLarge
	}
	symbols := map[string]string{}
	for i, x := range b {
		if !scan.IsName(x.Name) {
			return nil, api.ErrName
		}
		if i > 0 && x.Name <= b[i-1].Name {
			return nil, api.ErrOrder
		}
		symbol, err := tree.Symbol(g, x.Part)
		if err != api.OK {
			return nil, err
		}
		symbols[x.Name] = symbol
	}
	return symbols, api.OK
}

// build makes a tree of a form, in which the parts that have names stay in their own memory.
func build(form api.Query, parts map[string]api.Tree) api.Tree {
	switch form.Op {
	case api.QueryAny:
		return parts[form.Bind]
	case api.QueryLeaf:
		return api.Tree{Rule: leafRule, Token: api.Token{Kind: form.Kind, Lead: form.Lead, Text: form.Text}}
	}
	node := api.Tree{Rule: form.Rule}
	for _, arg := range form.Args {
		node.Kids = append(node.Kids, build(arg, parts))
	}
	return node
}
