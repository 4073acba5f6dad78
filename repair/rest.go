package repair

import (
	"hedgelayer/api"
)

// Finish is the shortest list of kinds that can follow a word.
func Finish(g api.Grammar, word []string) ([]string, api.Errno) {
	end := len(word)
	a, c, err := fill(g, word, func(at int) bool { return at == end })
	if err != api.OK {
		return nil, err
	}
	if c.total() > api.MaxTokens {
		return nil, api.ErrFull
	}
	return a.decoded(find(c, leastWords())[end:]), api.OK
}

// Holes is the word with the fewest tokens in which those of a word stand.
func Holes(g api.Grammar, word []string) ([]string, int, api.Errno) {
	a, c, err := fill(g, word, func(int) bool { return true })
	if err != api.OK {
		return nil, 0, err
	}
	if c.total() > api.MaxTokens-len(word) {
		return nil, 0, api.ErrFull
	}
	return a.decoded(find(c, leastWords())), c.total(), api.OK
}

// fill finds how many tokens must be put into a word, where this is possible, so that it is in the language.
func fill(g api.Grammar, word []string, possible func(at int) bool) (asked, *chart, api.Errno) {
	if err := checkWord(g, word); err != api.OK {
		return asked{}, nil, err
	}
	a, err := number(g, word)
	if err != api.OK {
		return asked{}, nil, err
	}
	c := newChart(a.grammar, len(word), filling(a.tokens, possible))
	if c.total() == never {
		return asked{}, nil, api.ErrRule
	}
	return a, c, api.OK
}
