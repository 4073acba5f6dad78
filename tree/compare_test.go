package tree_test

import (
	"testing"

	"hedgelayer/api"
	"hedgelayer/tree"
)

// P4.4: trees that are equal but for Leads.
func TestAlike(t *testing.T) {
	tests := []struct {
		a, b string
		want bool
	}{
		{mixedText, mixedText, true},
		{"a\"\"\"x\"", "a\" \"\"x\"", true}, {"a\"\"\"x\"", "a\"\"\"y\"", false}, {"a\"\"\"x\"", "b\"\"\"x\"", false}, {"a\" \"\"\"", "a\"\"\" \"", false},
		{"(0)", "(0)", true}, {"(0)", "(1)", false}, {"(0)", "a\"\"\"\"", false},
		{"(0 a\"1\"\"x\" a\"2\"\"y\")", "(0 a\"\"\"x\" a\"3\"\"y\")", true},
		{"(0 a\"\"\"x\" a\"\"\"y\")", "(0 a\"\"\"y\" a\"\"\"x\")", false},
		{"(0 a\"\"\"x\")", "(0 a\"\"\"x\" a\"\"\"x\")", false}, {"(0 a\"\"\"x\")", "(0 (1 a\"\"\"x\"))", false}, {"(0 (1))", "(0 (2))", false}, {"(0 (1))", "(0)", false},
	}
	for _, x := range tests {
		same, err := tree.Alike(read(t, x.a), read(t, x.b))
		is(t, []any{x.a, x.b, same, err}, []any{x.a, x.b, x.want, api.OK})
		same, err = tree.Alike(read(t, x.b), read(t, x.a))
		is(t, []any{x.b, x.a, same, err}, []any{x.b, x.a, x.want, api.OK})
	}
}

// P4.4: the least parts in which trees differ.
func TestDiff(t *testing.T) {
	tests := []struct {
		a, b string
		want [][]int
	}{
		{mixedText, mixedText, nil}, {"(0)", "(0)", nil}, {"a\"\"\"\"", "a\"\"\"\"", nil},
		{"(0)", "(1)", [][]int{{}}}, {"(0)", "a\"\"\"\"", [][]int{{}}}, {"(0)", "(0 (0))", [][]int{{}}}, {"(0 (0) (0))", "(0 (0))", [][]int{{}}},
		{"a\"\"\"\"", "a\" \"\"\"", [][]int{{}}}, {"a\"\"\"\"", "a\"\"\" \"", [][]int{{}}}, {"a\"\"\"\"", "b\"\"\"\"", [][]int{{}}},
		{"(0 (1) (2) (3))", "(0 (4) (2) (5))", [][]int{{0}, {2}}},
		{"(0 (1 (2 (3) (4)) (5)) (6))", "(0 (1 (2 (3) (9)) (9)) (6))", [][]int{{0, 0, 1}, {0, 1}}},
		{"(0 (1 (2) (3)))", "(0 (1 (2)))", [][]int{{0}}},
		{"(0 (1 (2)) (1 (2)))", "(0 (9 (2)) (1 (2 (2))))", [][]int{{0}, {1, 0}}},
	}
	for _, x := range tests {
		paths, err := tree.Diff(read(t, x.a), read(t, x.b))
		is(t, []any{x.a, x.b, paths, err}, []any{x.a, x.b, x.want, api.OK})
		paths, err = tree.Diff(read(t, x.b), read(t, x.a))
		is(t, []any{x.b, x.a, paths, err}, []any{x.b, x.a, x.want, api.OK})
	}
}

// P4.4: how many different trees there are.
func TestDistinct(t *testing.T) {
	tests := []struct {
		x    string
		want int
	}{
		{"(0)", 1}, {"a\"\"\"\"", 1}, {"(0 (0))", 2}, {"(0 (1) (1) (1))", 2}, {"(0 a\"\"\"\" a\" \"\"\" a\"\"\" \" b\"\"\"\")", 5},
		{"(0 (1 a\"\"\"\") (1 a\"\"\"\"))", 3}, {"(0 (1 a\"\"\"\") (2 a\"\"\"\"))", 4}, {"(0 (0 (0) (0)) (0 (0)) (0 (0) (0) (0)))", 5},
		{"(0 (1 (2) (3)) (1 (3) (2)))", 5}, {"(0 (1 (2 (3))) (1 (2) (3)) (1 (2)))", 7}, {mixedText, 9},
	}
	for _, x := range tests {
		n, err := tree.Distinct(read(t, x.x))
		is(t, []any{x.x, n, err}, []any{x.x, x.want, api.OK})
	}
	n, _ := tree.Distinct(chain(api.MaxDepth-1, blank))
	is(t, n, api.MaxDepth)
	n, _ = tree.Distinct(node(0, times(api.MaxNodes-1, blank)...))
	is(t, n, 2)
}

// P4.4: how many different trees two trees share.
func TestShared(t *testing.T) {
	tests := []struct {
		a, b string
		want int
	}{
		{mixedText, mixedText, 9}, {"(0)", "(0)", 1}, {"(0)", "(1)", 0}, {"(0)", "a\"\"\"\"", 0}, {"a\"\"\"\"", "a\" \"\"\"", 0},
		{"(0 (1) (1))", "(2 (1) (1) (1))", 1}, {"(0 (1) (2))", "(0 (2) (1))", 2}, {"(0 (0))", "(0)", 1}, {"(0 (0))", "(0 (0 (0)))", 2},
		{"(0 (1) (2))", "(0 (1))", 1}, {"(0 (1) (2))", "(3 (0 (1)) (0 (1) (2) (4)))", 2}, {"(0 (1 a\"\"\"x\") b\"\"\"\")", "(5 (6 (1 a\"\"\"x\")))", 2},
	}
	for _, x := range tests {
		n, err := tree.Shared(read(t, x.a), read(t, x.b))
		is(t, []any{x.a, x.b, n, err}, []any{x.a, x.b, x.want, api.OK})
		n, err = tree.Shared(read(t, x.b), read(t, x.a))
		is(t, []any{x.b, x.a, n, err}, []any{x.b, x.a, x.want, api.OK})
	}
}

// P4.5: the least numbers of steps.
func TestDistance(t *testing.T) {
	tests := []struct {
		a, b string
		want int
	}{
		{mixedText, mixedText, 0}, {"(0)", "(0)", 0}, {"(0)", "(1)", 1}, {"(0)", "a\"\"\"\"", 1}, {"a\"\"\"\"", "a\" \"\"\"", 1}, {"a\"\"\"\"", "a\"\"\" \"", 1}, {"a\"\"\"\"", "b\"\"\"\"", 1},
		{"(0)", "(0 (1))", 1}, {"(1)", "(0 (1))", 1}, {"(2)", "(0 (1))", 2}, {"(0 (1))", "(1 (0))", 2}, {"(0 (1) (2))", "(0 (2) (1))", 2},
		{"(0 (1) (2) (3))", "(0 (9 (1) (2)) (3))", 1}, {"(0 (1) (2) (3))", "(0 (9 (1) (3)) (2))", 3}, {"(0 (9 (1) (2)) (3))", "(0 (1) (9 (2) (3)))", 2},
		{"(0 (1 (2) (3)) (4))", "(5 (1 (2) (3)))", 2}, {"a\"\"\"\"", "(0 (1 a\"\"\"\"))", 2}, {"(0 (1) (2))", "(1)", 2}, {"(0 a\"\"\"\")", "(0 (1))", 1},
		{"(0 (1 (2) (3)) (2) (3))", "(0 (2) (3) (1 (2) (3)))", 2}, {"(0 (1) (1) (1))", "(0 (1 (1 (1))))", 4},
	}
	for _, x := range tests {
		n, err := tree.Distance(read(t, x.a), read(t, x.b))
		is(t, []any{x.a, x.b, n, err}, []any{x.a, x.b, x.want, api.OK})
		n, err = tree.Distance(read(t, x.b), read(t, x.a))
		is(t, []any{x.b, x.a, n, err}, []any{x.b, x.a, x.want, api.OK})
	}
}

// P4.5: the bound of parts, and the order of errors.
func TestDistanceErrors(t *testing.T) {
	most, more := node(0, times(api.MaxTwo-1, blank)...), node(0, times(api.MaxTwo, blank)...)
	long, longer := chain(api.MaxTwo-1, blank), chain(api.MaxTwo, blank)
	tests := []struct {
		a, b api.Tree
		n    int
		err  api.Errno
	}{
		{most, most, 0, api.OK}, {long, long, 0, api.OK}, {most, long, 116, api.OK}, {long, most, 116, api.OK}, {blank, most, 59, api.OK}, {node(0), long, 59, api.OK},
		{more, blank, 0, api.ErrLarge}, {blank, more, 0, api.ErrLarge}, {longer, longer, 0, api.ErrLarge}, {most, longer, 0, api.ErrLarge},
		{more, node(100), 0, api.ErrKind}, {node(100), more, 0, api.ErrKind}, {leaf("", "", ""), node(100), 0, api.ErrName},
	}
	for i, x := range tests {
		n, err := tree.Distance(x.a, x.b)
		is(t, []any{i, n, err}, []any{i, x.n, x.err})
	}
}
