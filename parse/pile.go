package parse

import (
	"slices"

	"hedgelayer/api"
)

// pile has a value for each symbol to which a parser has reduced a word: for each of its states but the first one.
type pile[T any] struct {
	rules []api.Rule
	list  []T
	read  int                          // how many tokens have been shifted
	leaf  func(token int) T            // the value of a token, by its index
	node  func(rule int, values []T) T // the value of a Left, made of those of the Right, which it must not keep
}

// do follows a step of the parser.
func (p *pile[T]) do(s api.Step) {
	if s.Rule == shifting {
		value := p.leaf(p.read)
		p.list = append(p.list, value)
		p.read++
		return
	}
	below := len(p.list) - len(p.rules[s.Rule].Right)
	value := p.node(s.Rule, p.list[below:])
	p.list = append(p.list[:below], value)
}

// treesOf is a pile of trees of tokens.
func treesOf(g api.Grammar, l []api.Token) *pile[api.Tree] {
	return &pile[api.Tree]{
		rules: g.Rules,
		leaf:  func(token int) api.Tree { return api.Tree{Rule: -1, Token: l[token]} },
		node: func(rule int, kids []api.Tree) api.Tree {
			return api.Tree{Rule: rule, Kids: slices.Clone(kids)}
		},
	}
}

// symbolsOf is a pile of the symbols themselves.
func symbolsOf(g api.Grammar, word []string) *pile[string] {
	return &pile[string]{
		rules: g.Rules,
		leaf:  func(token int) string { return word[token] },
		node:  func(rule int, _ []string) string { return g.Rules[rule].Left },
	}
}
