package tree_test

import (
	"testing"

	"hedgelayer/api"
	"hedgelayer/tree"
)

// mixed is a tree with leaves and nodes of several depths, some without bytes.
func mixed() api.Tree {
	return node(0,
		leaf("a", "", "one"),
		node(1),
		node(2, leaf("b", " ", ""), node(3, leaf("a", "\n", "two\n"), leaf("c", "", ""))),
		leaf("b", "  ", "3"))
}

const mixedText = "(0 a\"\"\"one\" (1) (2 b\" \"\"\" (3 a\"\\0a\"\"two\\0a\" c\"\"\"\")) b\"  \"\"3\")"

// P4.2: what the leaves say, in order.
func TestLeaves(t *testing.T) {
	tokens, err := tree.Tokens(mixed())
	is(t, []any{tokens, err}, []any{[]api.Token{token("a", "", "one"), token("b", " ", ""), token("a", "\n", "two\n"), token("c", "", ""), token("b", "  ", "3")}, api.OK})
	word, err := tree.Word(mixed())
	is(t, []any{word, err}, []any{[]string{"a", "b", "a", "c", "b"}, api.OK})
	text, err := tree.Text(mixed())
	is(t, []any{text, err}, []any{"one \ntwo\n  3", api.OK})
	tokens, _ = tree.Tokens(node(0, node(1)))
	word, _ = tree.Word(node(0, node(1)))
	text, _ = tree.Text(node(0, node(1)))
	is(t, []any{len(tokens), len(word), text}, []any{0, 0, ""})
	tokens, _ = tree.Tokens(leaf("a", "\x00", "\xff"))
	is(t, tokens, []api.Token{token("a", "\x00", "\xff")})
	text, _ = tree.Text(leaf("a", "\x00", "\xff"))
	is(t, text, "\x00\xff")
}

// P4.2: how many parts there are, and how deep they are.
func TestSize(t *testing.T) {
	tests := []struct {
		x            api.Tree
		count, depth int
	}{
		{blank, 1, 1}, {node(5), 1, 1}, {mixed(), 9, 4}, {node(0, chain(3, blank), blank), 6, 5}, {node(0, blank, blank), 3, 2},
		{chain(api.MaxDepth-1, blank), api.MaxDepth, api.MaxDepth}, {node(0, times(api.MaxNodes-1, blank)...), api.MaxNodes, 2},
	}
	for _, x := range tests {
		count, depth, err := tree.Size(x.x)
		is(t, []any{count, depth, err}, []any{x.count, x.depth, api.OK})
	}
}

// P4.1, P4.2: the order of parts is that of their paths.
func TestPaths(t *testing.T) {
	paths, err := tree.Paths(mixed())
	is(t, []any{paths, err}, []any{[][]int{{}, {0}, {1}, {2}, {2, 0}, {2, 1}, {2, 1, 0}, {2, 1, 1}, {3}}, api.OK})
	paths, err = tree.Paths(blank)
	is(t, []any{paths, err}, []any{[][]int{{}}, api.OK})
	paths, _ = tree.Paths(chain(api.MaxDepth-1, blank))
	is(t, []any{len(paths), len(paths[api.MaxDepth-1])}, []any{api.MaxDepth, api.MaxDepth - 1})
}

// P4.2: parts at paths.
func TestPart(t *testing.T) {
	tests := []struct {
		path []int
		want string
	}{
		{nil, mixedText}, {[]int{}, mixedText}, {[]int{0}, "a\"\"\"one\""}, {[]int{1}, "(1)"}, {[]int{2, 1}, "(3 a\"\\0a\"\"two\\0a\" c\"\"\"\")"}, {[]int{2, 1, 1}, "c\"\"\"\""}, {[]int{3}, "b\"  \"\"3\""},
	}
	for _, x := range tests {
		part, err := tree.Part(mixed(), x.path)
		is(t, []any{dump(t, part), err}, []any{x.want, api.OK})
	}
	for _, path := range wrongPaths() {
		part, err := tree.Part(mixed(), path)
		is(t, []any{part, err}, []any{api.Tree{}, api.ErrNone})
	}
}

// wrongPaths are paths at which the tree mixed has no part.
func wrongPaths() [][]int {
	const most = int(^uint(0) >> 1)
	return [][]int{{4}, {-1}, {0, 0}, {1, 0}, {2, 2}, {2, -1}, {2, 1, 2}, {2, 1, 1, 0}, {most}, {-most - 1}, {2, most}, make([]int, 200_000)}
}

// P4.2: another part in the place of one.
func TestPut(t *testing.T) {
	by := node(9, leaf("z", "", "z"))
	tests := []struct {
		path []int
		want string
	}{
		{nil, "(9 z\"\"\"z\")"},
		{[]int{0}, "(0 (9 z\"\"\"z\") (1) (2 b\" \"\"\" (3 a\"\\0a\"\"two\\0a\" c\"\"\"\")) b\"  \"\"3\")"},
		{[]int{1}, "(0 a\"\"\"one\" (9 z\"\"\"z\") (2 b\" \"\"\" (3 a\"\\0a\"\"two\\0a\" c\"\"\"\")) b\"  \"\"3\")"},
		{[]int{2, 1}, "(0 a\"\"\"one\" (1) (2 b\" \"\"\" (9 z\"\"\"z\")) b\"  \"\"3\")"},
		{[]int{2, 1, 1}, "(0 a\"\"\"one\" (1) (2 b\" \"\"\" (3 a\"\\0a\"\"two\\0a\" (9 z\"\"\"z\"))) b\"  \"\"3\")"},
	}
	for _, x := range tests {
		whole, err := tree.Put(mixed(), x.path, by)
		is(t, []any{dump(t, whole), err}, []any{x.want, api.OK})
	}
	for _, path := range wrongPaths() {
		whole, err := tree.Put(mixed(), path, by)
		is(t, []any{whole, err}, []any{api.Tree{}, api.ErrNone})
	}
}

// P4.2: the errors of Put, in order.
func TestPutErrors(t *testing.T) {
	named, kind := leaf("", "", ""), node(100)
	tests := []struct {
		x    api.Tree
		path []int
		by   api.Tree
		want api.Errno
	}{
		{named, []int{0}, kind, api.ErrName},
		{kind, nil, named, api.ErrKind},
		{blank, []int{0}, kind, api.ErrKind},
		{blank, nil, kind, api.ErrKind},
		{node(0, blank), []int{1}, chain(api.MaxDepth-1, blank), api.ErrNone},
		{node(0, blank), []int{0}, chain(api.MaxDepth-1, blank), api.ErrLarge},
		{node(0, blank), []int{0}, chain(api.MaxDepth-2, blank), api.OK},
		{node(0, blank), nil, chain(api.MaxDepth-1, blank), api.OK},
		{node(0, blank, blank), []int{0}, node(0, times(api.MaxNodes-2, blank)...), api.ErrLarge},
		{node(0, blank, blank), []int{0}, node(0, times(api.MaxNodes-3, blank)...), api.OK},
		{node(0, leaf("a", "x", ""), blank), []int{1}, leaf("a", "", bytes(api.MaxText)), api.ErrLarge},
		{node(0, leaf("a", "x", ""), blank), []int{1}, leaf("a", "", bytes(api.MaxText-1)), api.OK},
		{node(0, leaf("a", "x", ""), blank), []int{0}, leaf("a", "", bytes(api.MaxText)), api.OK},
	}
	for i, x := range tests {
		whole, err := tree.Put(x.x, x.path, x.by)
		is(t, []any{i, err}, []any{i, x.want})
		if err != api.OK {
			is(t, whole, api.Tree{})
		}
	}
}
