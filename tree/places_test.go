package tree_test

import (
	"math"
	"testing"

	"hedgelayer/api"
	"hedgelayer/tree"
)

// The bytes of mixed are: 0 to 3 a, 3 to 4 b, 4 to 9 a, 9 to 12 b; its part (1) and its c have none.

// P4.3: from where to where parts span.
func TestSpan(t *testing.T) {
	tests := []struct {
		path     []int
		from, to int
	}{
		{nil, 0, 12}, {[]int{0}, 0, 3}, {[]int{1}, 3, 3}, {[]int{2}, 3, 9}, {[]int{2, 0}, 3, 4}, {[]int{2, 1}, 4, 9}, {[]int{2, 1, 0}, 4, 9}, {[]int{2, 1, 1}, 9, 9}, {[]int{3}, 9, 12},
	}
	for _, x := range tests {
		from, to, err := tree.Span(mixed(), x.path)
		is(t, []any{x.path, from, to, err}, []any{x.path, x.from, x.to, api.OK})
	}
	for _, path := range wrongPaths() {
		from, to, err := tree.Span(mixed(), path)
		is(t, []any{from, to, err}, []any{0, 0, api.ErrNone})
	}
	from, to, err := tree.Span(node(0, node(1), leaf("a", "", "x")), []int{0})
	is(t, []any{from, to, err}, []any{0, 0, api.OK})
}

// P4.3: leaves by their numbers.
func TestNth(t *testing.T) {
	for n, want := range [][]int{{0}, {2, 0}, {2, 1, 0}, {2, 1, 1}, {3}} {
		path, err := tree.Nth(mixed(), n)
		is(t, []any{n, path, err}, []any{n, want, api.OK})
	}
	for _, n := range []int{-1, 5, 6, math.MinInt, math.MaxInt} {
		path, err := tree.Nth(mixed(), n)
		is(t, []any{n, path, err}, []any{n, []int{}, api.ErrNone})
	}
	path, err := tree.Nth(blank, 0)
	is(t, []any{path, err}, []any{[]int{}, api.OK})
	path, err = tree.Nth(node(0, node(1)), 0)
	is(t, []any{path, err}, []any{[]int{}, api.ErrNone})
}

// P4.3: leaves by the offsets of their bytes.
func TestFind(t *testing.T) {
	wants := []api.Leaf{
		{Path: []int{0}, InText: true}, {Path: []int{0}, InText: true, At: 1}, {Path: []int{0}, InText: true, At: 2},
		{Path: []int{2, 0}},
		{Path: []int{2, 1, 0}}, {Path: []int{2, 1, 0}, InText: true}, {Path: []int{2, 1, 0}, InText: true, At: 1}, {Path: []int{2, 1, 0}, InText: true, At: 2}, {Path: []int{2, 1, 0}, InText: true, At: 3},
		{Path: []int{3}}, {Path: []int{3}, At: 1}, {Path: []int{3}, InText: true},
	}
	for at, want := range wants {
		l, err := tree.Find(mixed(), at)
		is(t, []any{at, l, err}, []any{at, want, api.OK})
	}
	for _, at := range []int{-1, 12, 13, math.MinInt, math.MaxInt} {
		l, err := tree.Find(mixed(), at)
		is(t, []any{at, l, err}, []any{at, api.Leaf{}, api.ErrArg})
	}
	l, err := tree.Find(leaf("a", "", "x"), 0)
	is(t, []any{l, err}, []any{api.Leaf{InText: true}, api.OK})
	l, err = tree.Find(blank, 0)
	is(t, []any{l, err}, []any{api.Leaf{}, api.ErrArg})
}

// P4.3: the deepest part with some bytes.
func TestCover(t *testing.T) {
	tests := []struct {
		from, to int
		path     []int
	}{
		{0, 1, []int{0}}, {0, 3, []int{0}}, {2, 4, nil}, {3, 4, []int{2, 0}}, {3, 5, []int{2}}, {3, 9, []int{2}}, {4, 5, []int{2, 1, 0}}, {4, 9, []int{2, 1, 0}}, {8, 9, []int{2, 1, 0}}, {8, 10, nil}, {9, 12, []int{3}}, {11, 12, []int{3}}, {0, 12, nil},
	}
	for _, x := range tests {
		path, err := tree.Cover(mixed(), x.from, x.to)
		is(t, []any{x.from, x.to, path, err}, []any{x.from, x.to, x.path, api.OK})
	}
	path, err := tree.Cover(chain(5, leaf("a", "", "x")), 0, 1)
	is(t, []any{path, err}, []any{[]int{0, 0, 0, 0, 0}, api.OK})
	path, err = tree.Cover(node(0, node(1), node(2, node(3), leaf("a", "", "xy"))), 0, 2)
	is(t, []any{path, err}, []any{[]int{1, 1}, api.OK})
	for _, x := range [][]int{{0, 0}, {3, 3}, {4, 3}, {-1, 1}, {-1, -1}, {0, 13}, {12, 12}, {12, 13}, {11, 13}, {0, -1}, {math.MinInt, 3}, {3, math.MinInt}, {0, math.MaxInt}, {math.MaxInt, math.MaxInt}, {math.MinInt, math.MaxInt}} {
		path, err := tree.Cover(mixed(), x[0], x[1])
		is(t, []any{x, path, err}, []any{x, []int{}, api.ErrArg})
	}
	path, err = tree.Cover(blank, 0, 1)
	is(t, []any{path, err}, []any{[]int{}, api.ErrArg})
}

// P4.3: lines, and bytes there, at which first tokens begin.
func TestPlace(t *testing.T) {
	tests := []struct {
		path     []int
		line, at int
	}{
		{nil, 0, 0}, {[]int{0}, 0, 0}, {[]int{1}, 0, 3}, {[]int{2}, 0, 4}, {[]int{2, 0}, 0, 4}, {[]int{2, 1}, 1, 0}, {[]int{2, 1, 0}, 1, 0}, {[]int{2, 1, 1}, 2, 0}, {[]int{3}, 2, 2},
	}
	for _, x := range tests {
		line, at, err := tree.Place(mixed(), x.path)
		is(t, []any{x.path, line, at, err}, []any{x.path, x.line, x.at, api.OK})
	}
	for _, path := range wrongPaths() {
		line, at, err := tree.Place(mixed(), path)
		is(t, []any{line, at, err}, []any{0, 0, api.ErrNone})
	}
	line, at, _ := tree.Place(node(0, node(1), node(2), leaf("a", "\n\n xyz", "")), nil)
	is(t, []int{line, at}, []int{2, 4})
	line, at, _ = tree.Place(node(0, leaf("a", "x\nyz", ""), node(1, node(2)), leaf("a", "\n", "")), []int{1})
	is(t, []int{line, at}, []int{1, 2})
	line, at, _ = tree.Place(leaf("a", "é\r", "\n"), nil)
	is(t, []int{line, at}, []int{0, 3})
}

// P4.3: the example of the chapter.
func TestExample(t *testing.T) {
	x := read(t, "(0 num\"\"\"1\" plus\" \"\"+\" num\" \"\"2\")")
	count, depth, _ := tree.Size(x)
	text, _ := tree.Text(x)
	from, to, _ := tree.Span(x, []int{1})
	l, _ := tree.Find(x, 1)
	line, at, _ := tree.Place(x, []int{1})
	is(t, []any{count, depth, text, from, to, l, line, at}, []any{4, 2, "1 + 2", 1, 3, api.Leaf{Path: []int{1}}, 0, 2})
}
