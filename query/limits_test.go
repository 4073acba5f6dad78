package query_test

import (
	"fmt"
	"reflect"
	"slices"
	"strings"
	"testing"

	"hedgelayer/api"
	"hedgelayer/query"
	"hedgelayer/tree"
)

// wide is a grammar of trees that can be wide and deep.
const wide = "tokens a b\nstart s\ns = s s s s s s s s s s s s s s s s s s s s\ns = a\ns = s s\ns =\n"

func times[T any](n int, x T) []T { return slices.Repeat([]T{x}, n) }

// full is a tree of wide with 20 times 20 and so on leaves; of them the first ones have the Text 2, all others 1.
func full(depth int, first *int) api.Tree {
	x := node(0)
	for range 20 {
		switch {
		case depth > 1:
			x.Kids = append(x.Kids, full(depth-1, first))
		case *first > 0:
			*first--
			x.Kids = append(x.Kids, node(1, leaf("a", "", "2")))
		default:
			x.Kids = append(x.Kids, node(1, leaf("a", "", "1")))
		}
	}
	return x
}

// forest is full with 8,000 leaves and 16,421 parts.
func forest(first int) api.Tree { return full(3, &first) }

// spine is last below n nodes, each of which has x beside it.
func spine(n int, x, last api.Tree) api.Tree {
	for range n {
		last = node(2, last, x)
	}
	return last
}

// P8.1: a query can have MaxQueries queries in it and be MaxPatDepth deep, and not more.
func TestMaxQueries(t *testing.T) {
	g := grammar(t, wide)
	q, x := nodes(1, leaves("a", "", "")), node(1, leaf("a", "", ""))
	for range 9 {
		q, x = nodes(0, append(times(19, anyPart()), q)...), node(0, append(times(19, node(3)), x)...)
	}
	for range 9 {
		q, x = nodes(2, q, anyPart()), node(2, x, node(3))
	}
	is(t, query.Check(g, q), api.OK)
	_, ok, err := query.Fits(g, q, x)
	is(t, []any{ok, err}, []any{true, api.OK})
	is(t, query.Check(g, deep(q)), api.ErrLarge)
	is(t, query.CheckSwap(g, api.Swap{From: q, To: deep(q)}), api.ErrLarge)
	s, err := query.Text(q)
	is(t, []any{strings.Count(s, "_"), err}, []any{180, api.OK})
	is(t, query.Check(g, chained(29, nodes(3))), api.OK)
	n, err := query.Count(g, chained(29, nodes(3)), x)
	is(t, []any{n, err}, []any{10 + 19*9 + 8 + 9, api.OK})
	is(t, query.Check(g, chained(30, nodes(3))), api.ErrLarge)
	many, _, err := query.Unify(g, q, q)
	is(t, []any{text(many), err}, []any{s, api.OK})
}

// P8.3: MaxFound parts can be found, and not more; Count counts them.
func TestMaxFound(t *testing.T) {
	g := grammar(t, wide)
	x, more := forest(api.MaxFound), forest(api.MaxFound+1)
	for _, s := range []string{`a"2"`, `x@a"2"`, `(1 x@a"2")`} {
		q := ask(t, s)
		list, err := query.Find(g, q, x)
		is(t, []any{len(list), len(list[4_999].Path), err}, []any{api.MaxFound, strings.Count(s, "(")*-1 + 4, api.OK})
		list, err = query.Find(g, q, more)
		is(t, []any{list, err}, []any{[]api.Match{}, api.ErrFull})
		n, err := query.Count(g, q, more)
		is(t, []any{n, err}, []any{api.MaxFound + 1, api.OK})
		_, _, err = query.Fits(g, deep(q), more)
		is(t, err, api.OK)
	}
}

// P8.4: there can be MaxSwaps rules, and not more.
func TestMaxSwaps(t *testing.T) {
	g, x := grammar(t, wide), node(1, leaf("a", "", "49"))
	var l []api.Swap
	for i := range api.MaxSwaps + 1 {
		l = append(l, swap(t, fmt.Sprintf(`a"%d" => a"x"`, i)))
	}
	y, done, ok, err := query.Once(g, l[:50], x)
	is(t, []any{drawn(y), done, ok, err}, []any{"(1 a:x)", api.Done{Swap: 49, Path: []int{0}}, true, api.OK})
	_, _, _, err = query.Once(g, l, x)
	is(t, err, api.ErrLarge)
	_, _, ok, err = query.Rewrite(g, l[:50], x, 1)
	is(t, []any{ok, err}, []any{true, api.OK})
	_, _, _, err = query.Rewrite(g, l, x, 1)
	is(t, err, api.ErrLarge)
	list, err := query.Overlaps(g, l[:50])
	is(t, []any{list, err}, []any{[]api.Overlap{}, api.OK})
	list, err = query.Overlaps(g, times(50, l[0]))
	is(t, []any{len(list), err}, []any{50 * 49, api.OK})
	_, err = query.Overlaps(g, l)
	is(t, err, api.ErrLarge)
}

// P8.5: there can be MaxRewrites steps, in large trees, too.
func TestMaxRewrites(t *testing.T) {
	g := grammar(t, wide)
	l := swaps(t, `(2 ^a"0" x@_) => x@_`, `a"2" => a"3"`)
	for _, count := range []int{1_000, 1_001} {
		y, done, ok, err := query.Rewrite(g, l, forest(count), 1_000)
		is(t, []any{len(done), ok, err}, []any{1_000, count == 1_000, api.OK})
		is(t, done[999], api.Done{Swap: 1, Path: []int{2, 9, 19, 0}})
		n, _ := query.Count(g, ask(t, `a"3"`), y)
		is(t, n, len(done))
	}
	_, done, ok, err := query.Rewrite(g, swaps(t, `a => a"x"`), forest(0), 1_000)
	is(t, []any{len(done), done[999].Path, ok, err}, []any{1_000, []int{0, 0, 0, 0}, false, api.OK})
}

// P8.4: MaxQueries bounds, and results that are just too large, or not.
func TestBuildBound(t *testing.T) {
	g := grammar(t, wide)
	var b []api.Bound
	for i := range api.MaxQueries + 1 {
		b = append(b, api.Bound{Name: fmt.Sprintf("x%03d", i), Part: node(1, leaf("a", "", fmt.Sprint(i)))})
	}
	x, err := query.Build(g, ask(t, "(2 x000@_ x199@_)"), b[:200])
	is(t, []any{drawn(x), err}, []any{"(2 (1 a:0) (1 a:199))", api.OK})
	_, err = query.Build(g, ask(t, "(2 x000@_ x199@_)"), b)
	is(t, err, api.ErrLarge)
	long := func(n int) api.Tree { return node(1, leaf("a", "", strings.Repeat("x", n))) }
	for i, c := range []struct {
		part api.Tree
		form string
		want api.Errno
	}{
		{long(10_000), "(2 x@_ x@_)", api.OK}, {long(10_000), `(2 (2 x@_ x@_) (1 a"1"))`, api.ErrLarge}, {long(10_001), "(2 x@_ x@_)", api.ErrLarge}, {long(19_998), `(2 x@_ (1 a"1"," "))`, api.OK}, {long(19_999), `(2 x@_ (1 a"1"," "))`, api.ErrLarge},
		{spine(398, node(3), node(3)), "(2 x@_ (3))", api.OK}, {spine(399, node(3), node(3)), "(2 x@_ (3))", api.ErrLarge}, {spine(399, node(3), node(3)), "x@_", api.OK},
		{balanced(9_999), "(2 x@_ x@_)", api.OK}, {balanced(9_999), "(2 x@_ (2 x@_ (3)))", api.ErrLarge}, {balanced(10_000), "(2 x@_ x@_)", api.ErrLarge}, {forest(0), "(0 " + strings.Repeat("x@_ ", 19) + "x@_)", api.ErrLarge}, {forest(0), "(2 x@_ (3))", api.OK}, {forest(0), "(2 x@_ x@_)", api.ErrLarge},
	} {
		x, err := query.Build(g, ask(t, c.form), []api.Bound{{Name: "x", Part: c.part}})
		is(t, []any{i, err, err == tree.CheckTree(x)}, []any{i, c.want, c.want == api.OK})
	}
}

// resultErrors are those of At, Once and Rewrite for a part that is the first one that a rule fits.
func resultErrors(t *testing.T, s api.Swap, x api.Tree, path []int) []api.Errno {
	t.Helper()
	g, l := grammar(t, wide), []api.Swap{s}
	a, okA, errA := query.At(g, s, x, path)
	b, _, okB, errB := query.Once(g, l, x)
	c, done, okC, errC := query.Rewrite(g, l, x, 1)
	if errA != api.OK {
		is(t, []any{a, okA, b, okB, c, done, okC}, []any{api.Tree{}, false, api.Tree{}, false, api.Tree{}, []api.Done{}, false})
	} else {
		is(t, []any{okA, okB, len(done), tree.CheckTree(a), reflect.DeepEqual(a, b), reflect.DeepEqual(a, c)}, []any{true, true, 1, api.OK, true, true})
	}
	return []api.Errno{errA, errB, errC}
}

// balanced is a tree of n parts that is not deep.
func balanced(n int) api.Tree {
	switch n {
	case 1:
		return node(3)
	case 2:
		return node(1, leaf("a", "", ""))
	}
	return node(2, balanced((n-1)/2), balanced(n-1-(n-1)/2))
}

// P8.5: results that are just too large, or not: by their parts, depth and bytes.
func TestResultBound(t *testing.T) {
	two := node(1, leaf("a", "", "2"))
	long := func(n int) api.Tree { return node(1, leaf("a", "", strings.Repeat("x", n))) }
	same, more, deeper, longer := swap(t, `a"2" => a"3"`), swap(t, `(1 a"2") => (2 (3) (3))`), swap(t, `(1 a"2") => (2 (3) (1 a"3"))`), swap(t, `a"2" => a"33"`)
	for i, c := range []struct {
		s    api.Swap
		x    api.Tree
		path []int
		want api.Errno
	}{
		{same, node(2, two, balanced(api.MaxNodes-3)), []int{0, 0}, api.OK}, {more, node(2, two, balanced(api.MaxNodes-3)), []int{0}, api.ErrLarge}, {more, node(2, two, balanced(api.MaxNodes-4)), []int{0}, api.OK},
		{same, spine(398, node(3), two), times(399, 0), api.OK}, {deeper, spine(398, node(3), two), times(398, 0), api.ErrLarge}, {deeper, spine(397, node(3), two), times(397, 0), api.OK},
		{same, node(2, two, long(19_999)), []int{0, 0}, api.OK}, {longer, node(2, two, long(19_999)), []int{0, 0}, api.ErrLarge}, {longer, node(2, two, long(19_998)), []int{0, 0}, api.OK},
		// The Lead that does not come into the result does not count, be it of the form or of what is bound.
		{api.Swap{From: same.From, To: leaves("a", strings.Repeat(" ", 200_000), "3")}, node(2, two, node(3)), []int{0, 0}, api.OK},
		{swap(t, `(2 (1 _) x@_) => (2 x@_ x@_)`), node(2, two, node(1, leaf("a", strings.Repeat(" ", 9_000), strings.Repeat("x", 2_000)))), nil, api.OK},
	} {
		is(t, []any{i, resultErrors(t, c.s, c.x, c.path)}, []any{i, times(3, c.want)})
	}
}

// P8.5: a later step can be the one that is too large. Results with parts that are shared many times are found to be so early.
func TestLaterStep(t *testing.T) {
	g := grammar(t, wide)
	l := swaps(t, "(2 x@_ (3)) => (2 x@_ (1 a\"1\"))", "(2 (3) x@_) => (2 (2 x@_ x@_) (2 x@_ x@_))")
	x := node(2, node(3), forest(0))
	_, done, ok, err := query.Rewrite(g, l, node(2, x, node(3)), 1)
	is(t, []any{len(done), ok, err}, []any{1, false, api.OK})
	y, done, ok, err := query.Rewrite(g, l, node(2, x, node(3)), 2)
	is(t, []any{y, done, ok, err}, []any{api.Tree{}, []api.Done{}, false, api.ErrLarge})
	double := swaps(t, "(0 "+strings.Repeat("x@_ ", 19)+"x@_) => (0 "+strings.Repeat("(0 "+strings.Repeat("x@_ ", 19)+"x@_) ", 8)+strings.Repeat("x@_ ", 11)+"x@_)")
	_, _, _, err = query.Once(g, double, forest(0))
	is(t, err, api.ErrLarge)
}

// Z1: queries that ask much of each part.
func TestHard(t *testing.T) {
	g := grammar(t, wide)
	tall := spine(380, node(0, times(20, node(1, leaf("a", "", "1")))...), node(3))
	for text, want := range map[string]int{
		strings.Repeat("^", 29) + `a"7"`: 0, strings.Repeat("!^", 14) + `a"7"`: 0, strings.Repeat("^", 28) + "(2 x@(3) x@_)": 0, strings.Repeat("^", 28) + "(2 x@_ y@_)": 380, "(2 " + strings.Repeat("{(2 ", 13) + "^b" + strings.Repeat(" ^b) | _}", 13) + " ^b)": 0, "(2 (2 (2 (2 ^a _) ^a) ^a) ^b)": 0, "(2 " + strings.Repeat("(2 ", 25) + "_ ^x@a)" + strings.Repeat(" _)", 25): 355,
	} {
		n, err := query.Count(g, ask(t, text), tall)
		is(t, []any{text, n, err}, []any{text, want, api.OK})
	}
	list, err := query.Find(g, ask(t, "(2 x@_ y@_)"), tall)
	is(t, []any{len(list), len(list[379].Bounds), err}, []any{380, 2, api.OK})
}
