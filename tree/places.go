package tree

import (
	"slices"
	"strings"

	"hedgelayer/api"
)

// Span is from where to where a part has its bytes.
func Span(t api.Tree, path []int) (int, int, api.Errno) {
	part, err := checkedPart(t, path)
	if err != api.OK {
		return 0, 0, err
	}
	from := beginning(t, path)
	return from, from + length(part), api.OK
}

// beginning is how many bytes stand ahead of those of the part at a path, which is there.
func beginning(t api.Tree, path []int) int {
	at := 0
	for _, i := range path {
		for _, kid := range t.Kids[:i] {
			at += length(kid)
		}
		t = t.Kids[i]
	}
	return at
}

// length is how many bytes a part spans.
func length(t api.Tree) int {
	long := tokenLength(t)
	for _, kid := range t.Kids {
		long += length(kid)
	}
	return long
}

// tokenLength is how many bytes the token of a part alone has.
func tokenLength(t api.Tree) int { return len(t.Token.Lead) + len(t.Token.Text) }

// Nth is the path of a leaf.
func Nth(t api.Tree, n int) ([]int, api.Errno) {
	if err := CheckTree(t); err != api.OK {
		return nil, err
	}
	count := 0
	for path := range leaves(t) {
		if count == n {
			return slices.Clone(path), api.OK
		}
		count++
	}
	return nil, api.ErrNone
}

// Find says in which leaf a byte is.
func Find(t api.Tree, at int) (api.Leaf, api.Errno) {
	if err := CheckTree(t); err != api.OK {
		return api.Leaf{}, err
	}
	if at < 0 {
		return api.Leaf{}, api.ErrArg
	}
	for path, token := range leaves(t) {
		if at < len(token.Lead) {
			return api.Leaf{Path: slices.Clone(path), At: at}, api.OK
		}
		at -= len(token.Lead)
		if at < len(token.Text) {
			return api.Leaf{Path: slices.Clone(path), InText: true, At: at}, api.OK
		}
		at -= len(token.Text)
	}
	return api.Leaf{}, api.ErrArg
}

// Cover is the path of the deepest part that has some bytes.
func Cover(t api.Tree, from, to int) ([]int, api.Errno) {
	if err := CheckTree(t); err != api.OK {
		return nil, err
	}
	if from < 0 || from >= to || to > length(t) {
		return nil, api.ErrArg
	}
	var path []int
	for {
		i, begin, ok := coveringKid(t, from, to)
		if !ok {
			return path, api.OK
		}
		path = append(path, i)
		t = t.Kids[i]
		from -= begin
		to -= begin
	}
}

// coveringKid is the Kid that spans all of some bytes, and where it begins; false if there is none.
func coveringKid(t api.Tree, from, to int) (int, int, bool) {
	begin := 0
	for i, kid := range t.Kids {
		end := begin + length(kid)
		if begin <= from && to <= end {
			return i, begin, true
		}
		begin = end
	}
	return 0, 0, false
}

// Place is in which line, and where there, the first token of a part begins.
func Place(t api.Tree, path []int) (int, int, api.Errno) {
	part, err := checkedPart(t, path)
	if err != api.OK {
		return 0, 0, err
	}
	at := beginning(t, path) + len(firstToken(part).Lead)
	before := text(t)[:at]
	return strings.Count(before, "\n"), at - strings.LastIndex(before, "\n") - 1, api.OK
}

// firstToken is the token of the first leaf of a part, an empty one if it has no leaf.
func firstToken(t api.Tree) api.Token {
	for _, token := range leaves(t) {
		return token
	}
	return api.Token{}
}
