package tree

import (
	"iter"
	"slices"
	"strings"

	"hedgelayer/api"
)

// parts are all parts of a tree in order, each one with its path, which is good only until the next one comes.
func parts(t api.Tree) iter.Seq2[[]int, api.Tree] {
	return func(yield func([]int, api.Tree) bool) {
		walk(nil, t, yield)
	}
}

// walk goes through the part at a path and those within it, until yield is false.
func walk(path []int, t api.Tree, yield func([]int, api.Tree) bool) bool {
	if !yield(path, t) {
		return false
	}
	for i, kid := range t.Kids {
		if !walk(append(path, i), kid, yield) {
			return false
		}
	}
	return true
}

// leaves are all leaves of a tree in order, with their paths as those of parts.
func leaves(t api.Tree) iter.Seq2[[]int, api.Token] {
	return func(yield func([]int, api.Token) bool) {
		for path, part := range parts(t) {
			if isLeaf(part) && !yield(path, part.Token) {
				return
			}
		}
	}
}

// Tokens are the tokens of all leaves.
func Tokens(t api.Tree) ([]api.Token, api.Errno) {
	if err := CheckTree(t); err != api.OK {
		return nil, err
	}
	var tokens []api.Token
	for _, token := range leaves(t) {
		tokens = append(tokens, token)
	}
	return tokens, api.OK
}

// Word are the kinds of all leaves.
func Word(t api.Tree) ([]string, api.Errno) {
	if err := CheckTree(t); err != api.OK {
		return nil, err
	}
	var word []string
	for _, token := range leaves(t) {
		word = append(word, token.Kind)
	}
	return word, api.OK
}

// Text is the text of a tree.
func Text(t api.Tree) (string, api.Errno) {
	if err := CheckTree(t); err != api.OK {
		return "", err
	}
	return text(t), api.OK
}

func text(t api.Tree) string {
	var b strings.Builder
	for _, token := range leaves(t) {
		b.WriteString(token.Lead)
		b.WriteString(token.Text)
	}
	return b.String()
}

// Size is how many parts a tree has, and how deep it is.
func Size(t api.Tree) (int, int, api.Errno) {
	if err := CheckTree(t); err != api.OK {
		return 0, 0, err
	}
	count, depth := 0, 0
	for path := range parts(t) {
		count++
		depth = max(depth, len(path)+1)
	}
	return count, depth, api.OK
}

// Paths are the paths of all parts.
func Paths(t api.Tree) ([][]int, api.Errno) {
	if err := CheckTree(t); err != api.OK {
		return nil, err
	}
	var paths [][]int
	for path := range parts(t) {
		paths = append(paths, slices.Clone(path))
	}
	return paths, api.OK
}

// Part is the part at a path.
func Part(t api.Tree, path []int) (api.Tree, api.Errno) {
	part, err := checkedPart(t, path)
	if err != api.OK {
		return api.Tree{}, err
	}
	return copied(part), api.OK
}

// Put is a tree with another part in the place of one.
func Put(t api.Tree, path []int, by api.Tree) (api.Tree, api.Errno) {
	if err := checkTrees(t, by); err != api.OK {
		return api.Tree{}, err
	}
	if _, ok := partAt(t, path); !ok {
		return api.Tree{}, api.ErrNone
	}
	whole := copied(t)
	place := &whole
	for _, i := range path {
		place = &place.Kids[i]
	}
	*place = copied(by)
	if err := CheckTree(whole); err != api.OK {
		return api.Tree{}, err
	}
	return whole, api.OK
}

// checkedPart checks a tree and finds the part at a path; its memory is that of t.
func checkedPart(t api.Tree, path []int) (api.Tree, api.Errno) {
	if err := CheckTree(t); err != api.OK {
		return api.Tree{}, err
	}
	part, ok := partAt(t, path)
	if !ok {
		return api.Tree{}, api.ErrNone
	}
	return part, api.OK
}

// partAt is the part at a path, in the memory of t; false if there is none.
func partAt(t api.Tree, path []int) (api.Tree, bool) {
	for _, i := range path {
		if i < 0 || i >= len(t.Kids) {
			return api.Tree{}, false
		}
		t = t.Kids[i]
	}
	return t, true
}

// copied is an equal tree in memory of its own.
func copied(t api.Tree) api.Tree {
	var kids []api.Tree
	for _, kid := range t.Kids {
		kids = append(kids, copied(kid))
	}
	t.Kids = kids
	return t
}
