package reuse_test

import (
	"fmt"
	"strings"
	"testing"

	"hedgelayer/api"
	"hedgelayer/parse"
	"hedgelayer/reuse"
)

// P7.1: what is between the tokens that are kept ahead and those that are kept behind.
func TestDamage(t *testing.T) {
	tests := []struct{ old, now, want string }{
		{"", "", "{0 0} {0 0}"},
		{"", "a b", "{0 0} {0 2}"},
		{"a b", "", "{0 2} {0 0}"},
		{"a b c", "a b c", "{3 3} {3 3}"},
		{"a b c", "a x c", "{1 2} {1 2}"},
		{"a b c", "a c", "{1 2} {1 1}"},
		{"a c", "a b c", "{1 1} {1 2}"},
		{"a b c", "x b y", "{0 3} {0 3}"},
		{"a b", "c d e", "{0 2} {0 3}"},
		{"x b c", "b c", "{0 1} {0 0}"},
		// Ahead are as many as there are; behind is what is left of the rest.
		{"a a", "a a a", "{2 2} {2 3}"},
		{"a a a", "a", "{1 3} {1 1}"},
		{"a b a", "a", "{1 3} {1 1}"},
		{"a b a b", "a b", "{2 4} {2 2}"},
		{"a b c b c", "a b c", "{3 5} {3 3}"},
		{"a b c d", "a b x b c d", "{2 2} {2 4}"},
		// All fields count.
		{"a:1 b:2 c:3", "a:1 b:4 c:3", "{1 2} {1 2}"},
		{"a:1", "b:1", "{0 1} {0 1}"},
	}
	for _, x := range tests {
		before, after, err := reuse.Damage(split(x.old), split(x.now))
		is(t, []any{x.old, x.now, fmt.Sprint(before, after), err}, []any{x.old, x.now, x.want, api.OK})
	}
	a, b := api.Token{Kind: "a", Lead: " "}, api.Token{Kind: "a"}
	before, after, err := reuse.Damage([]api.Token{a, a, a}, []api.Token{a, b, a})
	is(t, []any{before, after, err}, []any{api.Range{From: 1, To: 2}, api.Range{From: 1, To: 2}, api.OK})
}

// outcome is what the functions of P7.3 return: for each subtree that is kept its tokens and where it is in both trees; the share; the paths that are changed.
func outcome(t *testing.T, g api.Grammar, old api.Tree, now []api.Token) string {
	t.Helper()
	kept, err := reuse.Kept(g, old, now)
	is(t, err, api.OK)
	var b strings.Builder
	for _, k := range kept {
		fmt.Fprint(&b, k.Tokens.From, "-", k.Tokens.To, ": ", k.Old, " ", k.New, "; ")
	}
	share, err := reuse.Share(g, old, now)
	is(t, err, api.OK)
	changed, err := reuse.Changed(g, old, now)
	is(t, err, api.OK)
	fmt.Fprint(&b, share.Num, "/", share.Den, "; ", changed)
	x, at, err := reuse.Again(g, old, now)
	want, _, _ := parse.Parse(g, now)
	is(t, []any{x, at, err}, []any{want, 0, api.OK})
	return b.String()
}

// lists are grouped from the right: what stands behind can be kept as a whole.
const lists = "tokens a b c\nstart l\nl = i l\nl = i\ni = a\ni = a b\n"

// P7.3: what is kept of trees that parse.Parse makes.
func TestKept(t *testing.T) {
	tests := []struct{ text, old, now, want string }{
		{sums, "num:1 plus num:2 plus num:3", "num:1 plus num:2 plus num:4", "0-3: [0] [0]; 3-4: [1] [1]; 3/5; [[] [2]]"},
		{sums, "num plus num", "num plus num", "0-3: [] []; 1/1; []"},
		{sums, "num:1 plus num:2", "num:3 plus num:2", "1-2: [1] [1]; 2-3: [2] [2]; 1/3; [[] [0] [0 0]]"},
		{sums, "num:1", "num:2", "0/1; [[] [0]]"},
		// What becomes longer stands in another place; what is new is not kept.
		{sums, "num", "num plus num", "0-1: [] [0]; 1/3; [[] [2]]"},
		{sums, "num plus num", "num plus num plus num", "0-3: [] [0]; 3/5; [[] [2]]"},
		// What becomes shorter.
		{sums, "num:1 plus num:2", "num:1", "0-1: [0] []; 1/1; []"},
		{sums, "num:1 plus num:2", "num:2", "0-1: [2] [0]; 1/1; [[]]"},
		{sums, "num:1 plus num:2 plus num:3", "num:1 plus num:3", "0-1: [0 0] [0]; 1-2: [0 1] [1]; 2-3: [2] [2]; 2/3; [[]]"},
		// Behind an edit.
		{lists, "a:1 a:2 a:3", "a:0 a:1 a:2 a:3", "1-4: [] [1]; 3/4; [[] [0]]"},
		{lists, "a:1 a:2 a:3 a:4", "a:5 a:6 a:3 a:4", "2-4: [1 1] [1 1]; 1/2; [[] [0] [1] [1 0]]"},
		{lists, "a:1 a:2 a:3", "a:1 a:9 b a:2 a:3", "0-1: [0] [0]; 3-5: [1] [1 1]; 3/5; [[] [1] [1 0]]"},
		{lists, "a:1 b a:2", "a:1 a:2", "0-1: [0 0] [0 0]; 1-2: [1] [1]; 1/2; [[] [0]]"},
		{lists, "a:1 a:2", "a:1 b a:2", "0-1: [0 0] [0 0]; 2-3: [1] [1]; 1/3; [[] [0]]"},
	}
	for _, x := range tests {
		g := read(t, x.text)
		got := outcome(t, g, parsed(t, g, split(x.old)), split(x.now))
		is(t, []string{x.old, x.now, got}, []string{x.old, x.now, x.want})
	}
}

// P7.3: of several subtrees that span the same tokens the outermost one that equals.
func TestKeptChain(t *testing.T) {
	g := read(t, "tokens a b\nstart s\ns = x\ns = y b\nx = z\ny = z\nz = w\nw = a\n")
	is(t, outcome(t, g, parsed(t, g, split("a")), split("a b")), "0-1: [0 0] [0 0]; 1/2; [[] [0]]")
	is(t, outcome(t, g, parsed(t, g, split("a b")), split("a")), "0-1: [0 0] [0 0]; 1/1; [[] [0]]")
	is(t, outcome(t, g, leaf("a"), split("a")), "0-1: [] [0 0 0 0]; 0/1; [[] [0] [0 0] [0 0 0]]")
	is(t, outcome(t, g, node(5, leaf("a")), split("a b")), "0-1: [] [0 0 0]; 1/2; [[] [0] [0 0]]")
}

// P7.3: a subtree with tokens of both sides is not kept, even if an equal one was there.
func TestKeptBothSides(t *testing.T) {
	g := read(t, "tokens a b\nstart s\ns = p\ns = a p\np = a b\n")
	old := parsed(t, g, split("a a b"))
	is(t, outcome(t, g, old, split("a b")), "0-1: [0] [0 0]; 1-2: [1 1] [0 1]; 0/1; [[] [0]]")
	for _, x := range []struct{ path, want string }{
		{"", "[] false 0"}, {"0", "[0 0] true 0"}, {"1", "[] false 0"}, {"1 0", "[] false 0"}, {"1 1", "[0 1] true 0"},
	} {
		is(t, []string{x.path, movedTo(g, old, "a b", x.path)}, []string{x.path, x.want})
	}
}

// movedTo is what Moved returns; numbers of the path are told with blanks between.
func movedTo(g api.Grammar, old api.Tree, now, path string) string {
	var list []int
	for _, s := range strings.Fields(path) {
		list = append(list, int(s[0]-'0'))
	}
	to, ok, err := reuse.Moved(g, old, split(now), list)
	return fmt.Sprintf("%v %v %d", to, ok, err)
}

// empties has nodes without tokens: n.
const empties = "tokens a b\nstart s\ns = s i n\ns = n\ni = a n\ni = b\nn =\n"

// P7.3: nodes that span no tokens are not kept by themselves, but within others.
func TestKeptEmpty(t *testing.T) {
	g := read(t, empties)
	is(t, outcome(t, g, parsed(t, g, nil), nil), "0/1; [[] [0]]")
	is(t, outcome(t, g, parsed(t, g, split("a")), nil), "0/1; [[] [0]]")
	is(t, outcome(t, g, parsed(t, g, nil), split("a")), "0/1; [[] [0] [0 0] [1] [1 1] [2]]")
	old := parsed(t, g, split("a b"))
	is(t, outcome(t, g, old, split("a b")), "0-2: [] []; 1/1; []")
	is(t, outcome(t, g, old, split("a:1 b")), "1-2: [1] [1]; 1/2; [[] [0] [0 0] [0 0 0] [0 1] [0 1 1] [0 2] [2]]")
	is(t, outcome(t, g, old, split("a b:1")), "0-1: [0] [0]; 1/2; [[] [1] [2]]")
	for _, x := range []struct{ now, path, want string }{
		{"a b", "", "[] true 0"},
		{"a b", "0 1 1", "[0 1 1] true 0"},
		{"a b", "2", "[2] true 0"},
		{"a b:1", "0 1 1", "[0 1 1] true 0"},
		{"a b:1", "0 2", "[0 2] true 0"},
		{"a b:1", "2", "[] false 0"},
		{"a:1 b", "2", "[] false 0"},
		{"a:1 b", "0 0", "[] false 0"},
		{"", "0 0 0", "[] false 0"},
		{"a", "0", "[] true 0"},
		{"b", "1", "[1] true 0"},
		{"b", "1 0", "[1 0] true 0"},
		{"a b b", "0 1 1", "[0 0 1 1] true 0"},
		{"a b b", "", "[0] true 0"},
		{"b a b", "1", "[1] true 0"},
	} {
		is(t, []string{x.now, x.path, movedTo(g, old, x.now, x.path)}, []string{x.now, x.path, x.want})
	}
}

// P7.3: where subtrees of the old tree stand, as in the example and behind an edit.
func TestMoved(t *testing.T) {
	g := read(t, sums)
	old := parsed(t, g, split("num:1 plus num:2 plus num:3"))
	now := "num:1 plus num:2 plus num:4"
	for path, want := range map[string]string{
		"": "[] false 0", "0": "[0] true 0", "0 0": "[0 0] true 0", "0 2 0": "[0 2 0] true 0", "1": "[1] true 0", "2": "[] false 0", "2 0": "[] false 0",
	} {
		is(t, []string{path, movedTo(g, old, now, path)}, []string{path, want})
	}
	g = read(t, lists)
	old = parsed(t, g, split("a:1 a:2 b a:3"))
	for path, want := range map[string]string{
		"": "[1] true 0", "0": "[1 0] true 0", "1": "[1 1] true 0", "1 0 1": "[1 1 0 1] true 0", "1 1 0 0": "[1 1 1 0 0] true 0",
	} {
		is(t, []string{path, movedTo(g, old, "a:0 a:1 a:2 b a:3", path)}, []string{path, want})
	}
	is(t, movedTo(g, old, "a:2 b a:3", "1"), "[] true 0")
	is(t, movedTo(g, old, "a:2 b a:3", "0"), "[] false 0")
}

// P7.3: of equal tokens those are meant that are kept ahead or behind: a subtree that has gone did not move to its twin.
func TestMovedTwins(t *testing.T) {
	g := read(t, lists)
	old := parsed(t, g, split("a a a"))
	is(t, outcome(t, g, old, split("a a")), "0-1: [0] [0]; 1-2: [1 0] [1 0]; 1/1; [[] [1]]")
	is(t, movedTo(g, old, "a a", "1 1"), "[] false 0")
	is(t, movedTo(g, old, "a a", "1 1 0"), "[] false 0")
	is(t, movedTo(g, old, "a a", "1 0"), "[1 0] true 0")
}

// P7.2: the old tree can be any tree of the grammar: of another symbol than Start, or not as the parser makes it.
func TestOldTrees(t *testing.T) {
	g := read(t, sums)
	is(t, outcome(t, g, leaf("plus"), split("num")), "0/1; [[] [0]]")
	is(t, outcome(t, g, leaf("num"), split("num plus num")), "0-1: [] [0 0 0]; 0/1; [[] [0] [0 0] [2]]")
	is(t, outcome(t, g, node(2, leaf("num")), split("num plus num")), "0-1: [] [0 0]; 1/3; [[] [0] [2]]")
	is(t, movedTo(g, leaf("num"), "num plus num", ""), "[0 0 0] true 0")
	g = read(t, "tokens num plus\nstart e\ne = e plus e / 1\ne = num\n")
	num, plus := node(1, leaf("num")), leaf("plus")
	right := node(0, num, plus, node(0, num, plus, num))
	now := split("num plus num plus num")
	is(t, outcome(t, g, right, now), "0-1: [0] [0 0]; 1-2: [1] [0 1]; 2-3: [2 0] [0 2]; 3-4: [2 1] [1]; 4-5: [2 2] [2]; 3/5; [[] [0]]")
	is(t, movedTo(g, right, "num plus num plus num", "2"), "[] false 0")
	is(t, movedTo(g, right, "num plus num plus num", "2 2"), "[2] true 0")
}

// P7.4: nodes that span a token, or the one before it.
func TestFragile(t *testing.T) {
	g := read(t, sums)
	x := parsed(t, g, split("num plus num plus num"))
	for at, want := range []string{
		"[[] [0] [0 0] [0 0 0]]",
		"[[] [0] [0 0] [0 0 0]]",
		"[[] [0] [0 2]]",
		"[[] [0] [0 2]]",
		"[[] [2]]",
		"[[] [2]]",
	} {
		paths, err := reuse.Fragile(g, x, at)
		is(t, []any{at, paths, err}, []any{at, want, api.OK})
	}
	g = read(t, empties)
	x = parsed(t, g, split("a b"))
	for at, want := range []string{
		"[[] [0] [0 0] [0 0 0] [0 1] [0 1 1] [0 2] [2]]",
		"[[] [0] [0 0] [0 0 0] [0 1] [0 1 1] [0 2] [1] [2]]",
		"[[] [0 0] [0 0 0] [0 1 1] [0 2] [1] [2]]",
	} {
		paths, err := reuse.Fragile(g, x, at)
		is(t, []any{at, paths, err}, []any{at, want, api.OK})
	}
	paths, err := reuse.Fragile(g, parsed(t, g, nil), 0)
	is(t, []any{paths, err}, []any{[][]int{nil, {0}}, api.OK})
	paths, err = reuse.Fragile(g, leaf("a"), 0)
	is(t, []any{paths, err}, []any{[][]int{}, api.OK})
}

// P7.4: nodes of at least two tokens, in whose last state nothing else is done.
func TestSafe(t *testing.T) {
	levels := "tokens n p t\nstart e\ne = e p e / 1\ne = e t e / 2\ne = n\n"
	tests := []struct{ text, word, want string }{
		{sums, "num", "[]"},
		{sums, "num plus num", "[[]]"},
		{sums, "num plus num plus num", "[[] [0]]"},
		// What binds more can come, and then is shifted.
		{levels, "n p n", "[]"},
		{levels, "n t n", "[[]]"},
		{levels, "n p n t n p n", "[[0 2]]"},
		{levels, "n t n p n", "[[0]]"},
		// For others the word is accepted.
		{"tokens a b c\nstart s\ns = x c\ns = a b\nx = s\n", "a b", "[[]]"},
		{"tokens a b c\nstart s\ns = x c\ns = a b\nx = s\n", "a b c", "[[] [0 0]]"},
		// For others another rule is reduced.
		{"tokens a b c d\nstart s\ns = x c\ns = y d\nx = a b\ny = a b\n", "a b c", "[[]]"},
		{"tokens a b c d\nstart s\ns = x c\ns = y d\nx = a b\ny = a\n", "a b c", "[[] [0]]"},
		{"tokens a b c\nstart s\ns = x c\nx = a b\nx = a\n", "a c", "[[]]"},
		// In another state the same rule would not be alone.
		{"tokens a b c d\nstart s\ns = x c\ns = d x\ns = d a b b\nx = a b\n", "a b c", "[[] [0]]"},
		{"tokens a b c d\nstart s\ns = x c\ns = d x\ns = d a b b\nx = a b\n", "d a b", "[[]]"},
		// A Left by which the parser could move there is nothing that comes.
		{"tokens a b c\nstart s\ns = x c\ns = y\nx = a b / 2\ny = a b n c\nn = / 1\n", "a b c", "[[] [0]]"},
		// Nodes around more tokens than their own, and nodes without tokens.
		{empties, "a b a", "[[] [0]]"},
		{empties, "", "[]"},
		{lists, "a b a", "[[] [0]]"},
		{lists, "a a b", "[[] [1 0]]"},
		{"tokens a b\nstart s\ns = x\nx = y\ny = a b\n", "a b", "[[] [0] [0 0]]"},
	}
	for _, x := range tests {
		g := read(t, x.text)
		paths, err := reuse.Safe(g, parsed(t, g, split(x.word)))
		is(t, []any{x.text, x.word, paths, err}, []any{x.text, x.word, x.want, api.OK})
	}
}
