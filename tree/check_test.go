package tree_test

import (
	"fmt"
	"math"
	"strings"
	"testing"

	"hedgelayer/api"
	"hedgelayer/tree"
)

func is(t *testing.T, got, want any) {
	t.Helper()
	if fmt.Sprint(got) != fmt.Sprint(want) {
		t.Errorf("got %.1000v, want %.1000v", got, want)
	}
}

// read reads a tree that must be right.
func read(t *testing.T, text string) api.Tree {
	t.Helper()
	x, at, err := tree.Read(text)
	is(t, []any{text, at, err}, []any{text, 0, api.OK})
	return x
}

// dump writes a tree that must be right.
func dump(t *testing.T, x api.Tree) string {
	t.Helper()
	s, err := tree.Dump(x)
	is(t, err, api.OK)
	return s
}

func token(kind, lead, text string) api.Token {
	return api.Token{Kind: kind, Lead: lead, Text: text}
}

func leaf(kind, lead, text string) api.Tree {
	return api.Tree{Rule: -1, Token: token(kind, lead, text)}
}

func node(rule int, kids ...api.Tree) api.Tree { return api.Tree{Rule: rule, Kids: kids} }

// times are n equal trees.
func times(n int, x api.Tree) []api.Tree {
	list := make([]api.Tree, n)
	for i := range list {
		list[i] = x
	}
	return list
}

// chain is x below n nodes, each one of which has one Kid.
func chain(n int, x api.Tree) api.Tree {
	for range n {
		x = node(0, x)
	}
	return x
}

// bytes is a string of n bytes.
func bytes(n int) string { return strings.Repeat("x", n) }

var blank = leaf("a", "", "")

func checked(t *testing.T, name string, x api.Tree, want api.Errno) {
	t.Helper()
	is(t, []any{name, tree.CheckTree(x)}, []any{name, want})
}

// P4.1: trees that are right.
func TestCheckTree(t *testing.T) {
	for _, x := range []api.Tree{
		blank, node(0), node(99), {Rule: 0, Kids: []api.Tree{}}, {Rule: -1, Token: api.Token{Kind: "a"}, Kids: []api.Tree{}},
		leaf("a", "\x00\xff", "\xff\x00"), leaf(strings.Repeat("a", 40), "", ""), leaf("z_9", " ", "é"),
		node(1, blank, node(2), blank, node(3, node(4, blank))),
	} {
		checked(t, fmt.Sprint(x), x, api.OK)
	}
}

// P4.1: what can be wrong with one part.
func TestCheckTreePart(t *testing.T) {
	for _, rule := range []int{-2, 100, 101, math.MinInt, math.MaxInt} {
		checked(t, fmt.Sprint(rule), node(rule), api.ErrKind)
		checked(t, fmt.Sprint(rule), node(0, blank, node(rule)), api.ErrKind)
	}
	grown := blank
	grown.Kids = []api.Tree{blank}
	checked(t, "leaf with Kids", grown, api.ErrForm)
	checked(t, "leaf with Kids", node(0, node(1, grown)), api.ErrForm)
	for _, token := range []api.Token{{Kind: "a"}, {Lead: " "}, {Text: "x"}} {
		checked(t, fmt.Sprint(token), api.Tree{Rule: 0, Token: token}, api.ErrForm)
		checked(t, fmt.Sprint(token), node(0, api.Tree{Rule: 99, Token: token, Kids: []api.Tree{blank}}), api.ErrForm)
	}
	for _, kind := range []string{"", "_", "0", "A", "a-b", "a ", "é", "a\x00", strings.Repeat("a", 41)} {
		checked(t, kind, leaf(kind, "", ""), api.ErrName)
		checked(t, kind, node(0, blank, leaf(kind, "", "")), api.ErrName)
	}
}

// P4.1: which error comes first, in one part and among several.
func TestCheckTreeOrder(t *testing.T) {
	grown := leaf("", bytes(api.MaxText+1), "")
	checked(t, "name, then size", grown, api.ErrName)
	grown.Kids = []api.Tree{blank}
	checked(t, "form, then name", grown, api.ErrForm)
	grown.Rule = 100
	checked(t, "kind, then form", grown, api.ErrKind)
	wrong := []api.Tree{node(100), {Rule: 0, Token: api.Token{Kind: "a"}}, leaf("", "", ""), leaf("a", bytes(api.MaxText), "x")}
	for i, want := range []api.Errno{api.ErrKind, api.ErrForm, api.ErrName, api.ErrLarge} {
		for _, other := range wrong {
			checked(t, "two Kids", node(0, blank, wrong[i], other), want)
			checked(t, "depth does not matter", node(0, node(1, node(2, wrong[i])), other), want)
		}
	}
	checked(t, "a node before its Kids", api.Tree{Rule: 100, Kids: []api.Tree{leaf("", "", "")}}, api.ErrKind)
	checked(t, "a node before its Kids", api.Tree{Token: api.Token{Text: "x"}, Kids: []api.Tree{leaf("", "", "")}}, api.ErrForm)
}

// P4.1: how many parts there can be.
func TestCheckTreeNodes(t *testing.T) {
	checked(t, "most parts", node(0, times(api.MaxNodes-1, blank)...), api.OK)
	checked(t, "one part more", node(0, times(api.MaxNodes, blank)...), api.ErrLarge)
	checked(t, "nodes count, too", node(0, times(api.MaxNodes/2, node(0, node(1)))...), api.ErrLarge)
	checked(t, "size before kind", node(0, append(times(api.MaxNodes-1, blank), node(100))...), api.ErrLarge)
	checked(t, "the last part", node(0, append(times(api.MaxNodes-2, blank), node(100))...), api.ErrKind)
	checked(t, "an earlier part", node(0, append([]api.Tree{node(100)}, times(api.MaxNodes, blank)...)...), api.ErrKind)
}

// P4.1: how deep a tree can be.
func TestCheckTreeDepth(t *testing.T) {
	checked(t, "deepest", chain(api.MaxDepth-1, blank), api.OK)
	checked(t, "deeper", chain(api.MaxDepth, blank), api.ErrLarge)
	checked(t, "deepest beside others", node(0, blank, chain(api.MaxDepth-2, blank), blank), api.OK)
	checked(t, "deeper beside others", node(0, blank, chain(api.MaxDepth-1, blank), blank), api.ErrLarge)
	checked(t, "depth before kind", chain(api.MaxDepth, node(100)), api.ErrLarge)
	checked(t, "kind of the deepest", chain(api.MaxDepth-1, node(100, node(100))), api.ErrKind)
	checked(t, "form of the deepest", chain(api.MaxDepth-1, api.Tree{Rule: -1, Kids: []api.Tree{blank}}), api.ErrForm)
	checked(t, "an earlier part", node(0, leaf("", "", ""), chain(api.MaxDepth, blank)), api.ErrName)
	checked(t, "a later part", node(0, chain(api.MaxDepth, blank), leaf("", "", "")), api.ErrLarge)
}

// P4.1: how many bytes the tokens can have.
func TestCheckTreeText(t *testing.T) {
	half := bytes(api.MaxText / 2)
	checked(t, "one leaf", leaf("a", half, half), api.OK)
	checked(t, "one byte more", leaf("a", half, half+"x"), api.ErrLarge)
	checked(t, "one byte more", leaf("a", half+"x", half), api.ErrLarge)
	checked(t, "several leaves", node(0, leaf("a", half, "x"), node(0), node(0, leaf("a", "", half[1:]))), api.OK)
	checked(t, "one byte more", node(0, leaf("a", half, "x"), node(0), node(0, leaf("a", "", half))), api.ErrLarge)
	checked(t, "up to a leaf", node(0, leaf("a", half, half+"x"), leaf("", "", "")), api.ErrLarge)
	checked(t, "kinds do not count", node(0, leaf("aaaa", half, half), leaf("bbbb", "", "")), api.OK)
}

// P4.1: trees that lead back to themselves, or have each part often, are just too large.
func TestCheckTreeEndless(t *testing.T) {
	kids := make([]api.Tree, 2)
	kids[0] = node(0, kids...)
	kids[1] = kids[0]
	checked(t, "endless", kids[0], api.ErrLarge)
	twice := blank
	for range 100 {
		twice = node(0, twice, twice)
	}
	checked(t, "2^100 leaves", twice, api.ErrLarge)
	checked(t, "deep", chain(200_000, blank), api.ErrLarge)
	checked(t, "wide", node(0, times(200_000, node(0))...), api.ErrLarge)
}

// sums is a grammar of sums, whose rule 2 has an empty Right.
func sums() api.Grammar {
	return api.Grammar{Kinds: []string{"num", "plus"}, Start: "e", Rules: []api.Rule{
		{Left: "e", Right: []string{"e", "plus", "t"}}, {Left: "e", Right: []string{"t"}}, {Left: "t"}, {Left: "t", Right: []string{"num"}},
	}}
}

// P4.1: trees of a grammar.
func TestCheck(t *testing.T) {
	num, plus := leaf("num", "", "1"), leaf("plus", " ", "+")
	tests := []struct {
		x    api.Tree
		want api.Errno
	}{
		{num, api.OK}, {plus, api.OK}, {node(2), api.OK}, {node(3, num), api.OK}, {node(1, node(2)), api.OK},
		{node(0, node(0, node(1, node(3, num)), plus, node(2)), plus, node(3, num)), api.OK},
		{leaf("e", "", ""), api.ErrNone}, {leaf("nu", "", ""), api.ErrNone}, {leaf("t", "", ""), api.ErrNone}, {node(1, leaf("x", "", "")), api.ErrNone},
		{node(4), api.ErrNone}, {node(99, num), api.ErrNone}, {node(1, node(4)), api.ErrNone},
		{node(1), api.ErrRule}, {node(0), api.ErrRule}, {node(0, node(2), plus), api.ErrRule}, {node(2, num), api.ErrRule}, {node(3, num, num), api.ErrRule},
		{node(1, node(3)), api.ErrRule},
		{node(1, num), api.ErrType}, {node(3, plus), api.ErrType}, {node(3, node(2)), api.ErrType}, {node(1, node(1, node(2))), api.ErrType},
		{node(0, node(2), plus, node(2)), api.ErrType}, {node(0, node(1, node(2)), num, node(2)), api.ErrType}, {node(0, node(1, node(2)), plus, node(1, node(2))), api.ErrType},
		{node(1, node(3, plus)), api.ErrType},
	}
	for _, x := range tests {
		is(t, []any{x.x, tree.Check(sums(), x.x)}, []any{x.x, x.want})
	}
}

// P4.1: which error of Check comes first.
func TestCheckOrder(t *testing.T) {
	g := sums()
	none, rule, kind := node(50), node(0), node(100)
	mistyped := node(3, leaf("plus", "", ""))
	is(t, tree.Check(g, node(2, none, rule)), api.ErrRule)
	is(t, tree.Check(g, node(0, none, rule, rule)), api.ErrNone)
	is(t, tree.Check(g, node(0, rule, none, rule)), api.ErrRule)
	is(t, tree.Check(g, node(0, mistyped, rule, none)), api.ErrRule)
	is(t, tree.Check(g, node(0, mistyped, leaf("x", "", ""), rule)), api.ErrNone)
	is(t, tree.Check(g, node(0, none, rule, kind)), api.ErrKind)
	is(t, tree.Check(g, node(2, mistyped)), api.ErrRule)
	g.Kinds = []string{"plus", "num"}
	is(t, tree.Check(g, kind), api.ErrOrder)
	is(t, tree.Check(api.Grammar{}, kind), api.ErrNone)
}

// P4.1: the symbol of a tree.
func TestSymbol(t *testing.T) {
	tests := []struct {
		x      api.Tree
		symbol string
		err    api.Errno
	}{
		{leaf("num", " ", "1"), "num", api.OK}, {leaf("plus", "", ""), "plus", api.OK},
		{node(1, node(2)), "e", api.OK}, {node(2), "t", api.OK}, {node(3, leaf("num", "", "")), "t", api.OK},
		{leaf("x", "", ""), "", api.ErrNone}, {node(1), "", api.ErrRule}, {node(1, leaf("num", "", "")), "", api.ErrType}, {node(-2), "", api.ErrKind},
	}
	for _, x := range tests {
		symbol, err := tree.Symbol(sums(), x.x)
		is(t, []any{x.x, symbol, err}, []any{x.x, x.symbol, x.err})
	}
	symbol, err := tree.Symbol(api.Grammar{}, blank)
	is(t, []any{symbol, err}, []any{"", api.ErrNone})
}
