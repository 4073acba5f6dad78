package reuse_test

import (
	"fmt"
	"math"
	"slices"
	"strings"
	"testing"

	"hedgelayer/api"
	"hedgelayer/gram"
	"hedgelayer/parse"
	"hedgelayer/reuse"
	"hedgelayer/tree"
)

func is(t *testing.T, got, want any) {
	t.Helper()
	a, b := fmt.Sprint(got), fmt.Sprint(want)
	if a != b {
		t.Errorf("got %.1000s, want %.1000s", a, b)
	}
}

// read reads a grammar that must be right.
func read(t *testing.T, text string) api.Grammar {
	t.Helper()
	g, line, err := gram.Read(text)
	is(t, []any{text, line, err}, []any{text, 0, api.OK})
	return g
}

// split are tokens that are told with blanks between: each one is a kind, or a kind, a colon and a Text.
func split(s string) []api.Token {
	var list []api.Token
	for _, word := range strings.Fields(s) {
		kind, text, _ := strings.Cut(word, ":")
		list = append(list, api.Token{Kind: kind, Text: text})
	}
	return list
}

// parsed is the tree of tokens that must be right.
func parsed(t *testing.T, g api.Grammar, l []api.Token) api.Tree {
	t.Helper()
	x, at, err := parse.Parse(g, l)
	is(t, []any{at, err}, []any{0, api.OK})
	return x
}

func leaf(kind string) api.Tree { return api.Tree{Rule: -1, Token: api.Token{Kind: kind}} }

func node(rule int, kids ...api.Tree) api.Tree { return api.Tree{Rule: rule, Kids: kids} }

// sums is the grammar of the example of the chapter.
const sums = "tokens num plus\nstart e\ne = e plus t\ne = t\nt = num\n"

// ambiguous is a grammar without a table.
const ambiguous = "tokens num plus\nstart e\ne = e plus e\ne = num\n"

// errors are those of all functions with a grammar, an old tree and new tokens.
func errors(g api.Grammar, old api.Tree, now []api.Token, path []int) []api.Errno {
	_, _, a := reuse.Again(g, old, now)
	_, b := reuse.Kept(g, old, now)
	_, c := reuse.Share(g, old, now)
	_, d := reuse.Changed(g, old, now)
	_, _, e := reuse.Moved(g, old, now, path)
	return []api.Errno{a, b, c, d, e}
}

func all(err api.Errno) []api.Errno { return slices.Repeat([]api.Errno{err}, 5) }

// P7.2, P7.3: the error of tree.Check comes first, then those of parse.Parse, then that of Moved.
func TestOrderOfErrors(t *testing.T) {
	g := read(t, sums)
	wrong := []int{5}
	badTree, badWord := node(7), split("Num")
	noNames := g
	noNames.Kinds = []string{"num", "Plus"}
	is(t, errors(noNames, badTree, badWord, wrong), all(api.ErrName))
	is(t, errors(api.Grammar{}, api.Tree{Rule: -5}, badWord, wrong), all(api.ErrNone))
	is(t, errors(read(t, ambiguous), api.Tree{Rule: -5}, badWord, wrong), all(api.ErrKind))
	is(t, errors(read(t, ambiguous), leaf("x"), badWord, wrong), all(api.ErrNone))
	is(t, errors(read(t, ambiguous), node(0, leaf("num")), badWord, wrong), all(api.ErrRule))
	is(t, errors(read(t, ambiguous), node(1, leaf("plus")), badWord, wrong), all(api.ErrType))
	is(t, errors(read(t, ambiguous), node(1, leaf("num")), badWord, wrong), all(api.ErrConflict))
	right := node(2, leaf("num"))
	is(t, errors(g, right, badWord, wrong), all(api.ErrName))
	is(t, errors(g, right, make([]api.Token, api.MaxTokens+1), wrong), all(api.ErrLarge))
	is(t, errors(g, right, []api.Token{{Kind: "x", Text: strings.Repeat("x", api.MaxText+1)}}, wrong), all(api.ErrLarge))
	is(t, errors(g, right, split("num x num"), wrong), all(api.ErrNone))
	is(t, errors(g, right, split("num num"), wrong), all(api.ErrRule))
	is(t, errors(g, right, nil, wrong), all(api.ErrRule))
	is(t, errors(g, right, slices.Repeat(split("num plus"), api.MaxDepth)[1:], wrong), all(api.ErrRule))
	deep := slices.Repeat(split("plus num"), api.MaxDepth-1)[1:]
	is(t, errors(g, right, deep, wrong), all(api.ErrLarge))
	is(t, errors(g, right, deep[2:], wrong), []api.Errno{api.OK, api.OK, api.OK, api.OK, api.ErrNone})
	is(t, errors(g, right, deep[2:], []int{0}), all(api.OK))
	is(t, errors(read(t, "tokens a\nstart s\ns = s / 1\ns = a\n"), node(1, leaf("a")), split("a"), wrong), all(api.ErrFull))
}

// P7.2: with a wrong token Again tells which one it is, as parse.Parse does.
func TestAgainWrong(t *testing.T) {
	g := read(t, sums)
	old := parsed(t, g, split("num plus num"))
	for i, word := range []string{"", "plus", "num num", "num plus", "num plus num plus plus"} {
		x, at, err := reuse.Again(g, old, split(word))
		is(t, []any{word, x, at, err}, []any{word, api.Tree{}, []int{0, 0, 1, 2, 4}[i], api.ErrRule})
	}
}

// P7.3: there is no subtree at a path that leaves the tree, or goes on below a leaf.
func TestMovedNone(t *testing.T) {
	g := read(t, sums)
	old := parsed(t, g, split("num plus num"))
	for _, path := range [][]int{{3}, {-1}, {1, 0}, {0, 1}, {0, 0, 1}, {0, 0, 0, 0}, {math.MinInt}, {math.MaxInt}, {2, 0, -1}, make([]int, 200_000)} {
		at, ok, err := reuse.Moved(g, old, split("num"), path)
		is(t, []any{path, at, ok, err}, []any{path, []int{}, false, api.ErrNone})
	}
	_, _, err := reuse.Moved(g, leaf("num"), split("num"), []int{0})
	is(t, err, api.ErrNone)
}

// P7.1: errors of old come first.
func TestDamageErrors(t *testing.T) {
	right, bad := split("num"), split("Num")
	long := []api.Token{{Kind: "a", Lead: strings.Repeat("x", api.MaxText), Text: "x"}}
	many := slices.Repeat(right, api.MaxTokens+1)
	tests := []struct {
		old, now []api.Token
		err      api.Errno
	}{
		{right, right, api.OK},
		{bad, many, api.ErrName},
		{many, bad, api.ErrLarge},
		{long, bad, api.ErrLarge},
		{right, bad, api.ErrName},
		{right, many, api.ErrLarge},
		{right, long, api.ErrLarge},
		{bad, bad, api.ErrName},
		{many[1:], many[2:], api.OK},
	}
	for i, x := range tests {
		_, _, err := reuse.Damage(x.old, x.now)
		is(t, []any{i, err}, []any{i, x.err})
	}
}

// P7.4: the error of tree.Check comes first, then ErrArg. A grammar needs no table.
func TestFragileErrors(t *testing.T) {
	g := read(t, ambiguous)
	three := node(0, node(1, leaf("num")), leaf("plus"), node(1, leaf("num")))
	noNames := g
	noNames.Kinds = []string{"num", "Plus"}
	tests := []struct {
		g   api.Grammar
		x   api.Tree
		at  int
		err api.Errno
	}{
		{noNames, api.Tree{Rule: -5}, -1, api.ErrName},
		{g, api.Tree{Rule: -5}, -1, api.ErrKind},
		{g, node(7), -1, api.ErrNone},
		{g, node(0), -1, api.ErrRule},
		{g, node(1, leaf("plus")), -1, api.ErrType},
		{g, three, -1, api.ErrArg},
		{g, three, 0, api.OK},
		{g, three, 3, api.OK},
		{g, three, 4, api.ErrArg},
		{g, three, math.MinInt, api.ErrArg},
		{g, three, math.MaxInt, api.ErrArg},
		{g, leaf("plus"), 1, api.OK},
		{g, leaf("plus"), 2, api.ErrArg},
	}
	for i, x := range tests {
		_, err := reuse.Fragile(x.g, x.x, x.at)
		is(t, []any{i, err}, []any{i, x.err})
	}
	empty := read(t, "tokens\nstart s\ns =\n")
	_, err := reuse.Fragile(empty, node(0), 0)
	is(t, err, api.OK)
	_, err = reuse.Fragile(empty, node(0), 1)
	is(t, err, api.ErrArg)
}

// P7.4: the error of tree.Check comes first, then those of parse.Parse, then ErrState.
func TestSafeErrors(t *testing.T) {
	g, loops := read(t, sums), read(t, "tokens a\nstart s\ns = s / 1\ns = a\n")
	noNames := g
	noNames.Kinds = []string{"num", "Plus"}
	levels := read(t, "tokens num plus\nstart e\ne = e plus e / 1\ne = num\n")
	num := node(1, leaf("num"))
	rows := read(t, "tokens a\nstart s\ns = s r\ns =\nr = a a a a a a a a a a a a a a a a a a a a\n")
	row := node(2, slices.Repeat([]api.Tree{leaf("a")}, api.MaxRight)...)
	many := node(1)
	for range 101 {
		many = node(0, many, row)
	}
	tests := []struct {
		g   api.Grammar
		x   api.Tree
		err api.Errno
	}{
		{noNames, api.Tree{Rule: -5}, api.ErrName},
		{g, api.Tree{Rule: -5}, api.ErrKind},
		{read(t, ambiguous), node(7), api.ErrNone},
		{read(t, ambiguous), node(1), api.ErrRule},
		{read(t, ambiguous), node(1, leaf("plus")), api.ErrType},
		{read(t, ambiguous), num, api.ErrConflict},
		{loops, node(1, leaf("a")), api.ErrFull},
		{rows, many, api.ErrLarge},
		{rows, many.Kids[0], api.OK},
		{rows, row, api.ErrState},
		{g, leaf("plus"), api.ErrRule},
		{g, leaf("num"), api.ErrState},
		{g, node(2, leaf("num")), api.ErrState},
		{g, node(1, node(2, leaf("num"))), api.OK},
		{levels, node(0, node(0, num, leaf("plus"), num), leaf("plus"), num), api.OK},
		{levels, node(0, num, leaf("plus"), node(0, num, leaf("plus"), num)), api.ErrState},
	}
	for i, x := range tests {
		_, err := reuse.Safe(x.g, x.x)
		is(t, []any{i, err}, []any{i, x.err})
	}
	is(t, tree.Check(rows, many), api.OK)
}
