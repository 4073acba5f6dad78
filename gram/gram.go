// Package gram has grammars: checks, texts, what symbols can be, words and derivations.
package gram

import (
	"slices"

	"hedgelayer/api"
	"hedgelayer/scan"
)

// Check says what is wrong with a grammar.
func Check(g api.Grammar) api.Errno {
	if err := checkKinds(g.Kinds); err != api.OK {
		return err
	}
	if err := checkRules(g); err != api.OK {
		return err
	}
	return checkSymbols(g)
}

func checkKinds(kinds []string) api.Errno {
	if len(kinds) > api.MaxKinds {
		return api.ErrLarge
	}
	for i, kind := range kinds {
		if !scan.IsName(kind) {
			return api.ErrName
		}
		if i > 0 && kind <= kinds[i-1] {
			return api.ErrOrder
		}
	}
	return api.OK
}

func checkRules(g api.Grammar) api.Errno {
	if len(g.Rules) == 0 {
		return api.ErrNone
	}
	if len(g.Rules) > api.MaxRules {
		return api.ErrLarge
	}
	for i, r := range g.Rules {
		switch {
		case !scan.IsName(r.Left):
			return api.ErrName
		case slices.Contains(g.Kinds, r.Left):
			return api.ErrConflict
		case len(r.Right) > api.MaxRight:
			return api.ErrLarge
		case r.Level < 0 || r.Level > api.MaxLevel:
			return api.ErrArg
		case stands(g.Rules[:i], r):
			return api.ErrTwice
		}
	}
	return api.OK
}

// stands reports whether one of the rules has the Left and the Right of r.
func stands(rules []api.Rule, r api.Rule) bool {
	return slices.ContainsFunc(rules, func(x api.Rule) bool {
		return x.Left == r.Left && slices.Equal(x.Right, r.Right)
	})
}

// checkSymbols looks for symbols that are not there; the rest of g has been checked.
func checkSymbols(g api.Grammar) api.Errno {
	symbols := map[string]bool{}
	for _, kind := range g.Kinds {
		symbols[kind] = true
	}
	for _, r := range g.Rules {
		symbols[r.Left] = true
	}
	for _, r := range g.Rules {
		for _, symbol := range r.Right {
			if !symbols[symbol] {
				return api.ErrNone
			}
		}
	}
	if !symbols[g.Start] || slices.Contains(g.Kinds, g.Start) {
		return api.ErrNone
	}
	return api.OK
}

// Lefts are the symbols that are the Left of a rule.
func Lefts(g api.Grammar) ([]string, api.Errno) {
	n, err := numbered(g)
	if err != api.OK {
		return nil, err
	}
	return n.lefts(func(int) bool { return true }), api.OK
}
