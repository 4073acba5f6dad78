package query_test

import (
	"fmt"
	"math"
	"testing"

	"hedgelayer/api"
	"hedgelayer/query"
)

// P8.5: one part is rewritten, wherever others fit, too.
func TestAt(t *testing.T) {
	g := grammar(t, mixed)
	const no = "no"
	for _, x := range []struct {
		swap, tree string
		path       []int
		want       string
	}{
		{`a => a"1"`, "a:2", nil, "a:1"}, {`a => a"1"`, "~~a:2", nil, "~~a:1"}, {`a => a"1"," "`, "a:2", nil, "a:1"}, {`a"1" => a"2"`, "a:2", nil, no}, {`a => a"1"`, "(2 a)", nil, no}, {`a => a"1"`, "(2 a)", []int{0}, "(2 a:1)"},
		{`a => a"1"`, "(0 (0 (1) (2 a)) (2 a))", []int{1, 0}, "(0 (0 (1) (2 a)) (2 a:1))"}, {`(0 _ x@_) => (0 (1) x@_)`, "(0 (0 (0 (1) (2 a)) (2 a:2)) (2 a))", []int{0}, "(0 (0 (1) (2 a:2)) (2 a))"}, {"(1) => (1)", "(0 (1) (2 a))", []int{0}, "(0 (1) (2 a))"},
		// The Lead of the first token stays, and others are those of the form or of what is bound.
		{"(4 x@_ y@_ z@_) => (4 z@_ y@_ x@_)", "(3 b (4 ~c:1 (1) ~~c:2))", []int{1}, "(3 b (4 ~c:2 (1) ~c:1))"}, {"(0 _ x@_) => (0 (0 (1) (2 a\"1\",\"   \")) x@_)", "(0 (0 (1) (2 ~a)) (2 ~~a:2))", nil, "(0 (0 (1) (2 ~a:1)) (2 ~~a:2))"}, {"(2 x@_) => (3 b\"1\",\" \" (4 c\"1\",\" \" (0 (1) (2 x@_)) c\"2\",\"  \"))", "(2 ~~~a:1)", nil, "(3 ~~~b:1 (4 ~c:1 (0 (1) (2 ~~~a:1)) ~~c:2))"},
		{"(0 x@_ y@_) => (0 (0 (0 (1) y@_) y@_) y@_)", "(0 (0 (1) (2 ~a)) (2 ~~a:2))", nil, "(0 (0 (0 (1) (2 ~a:2)) (2 ~~a:2)) (2 ~~a:2))"}, {"(0 x@_ _) => x@_", "(0 (0 (0 (1) (2 ~a:1)) (2 ~a:2)) (2 a:3))", []int{0}, "(0 (0 (1) (2 ~a:1)) (2 a:3))"},
		// There can be no first token, of what is replaced, or of what comes.
		{"(1) => (0 (1) (2 a\"1\",\"  \"))", "(0 (1) (2 ~a))", []int{0}, "(0 (0 (1) (2 a:1)) (2 ~a))"}, {"(0 x@_ _) => x@_", "(0 (0 (1) (2 ~~a)) (2 ~a))", []int{0}, "(0 (1) (2 ~a))"}, {"(0 _ y@_) => (0 (1) y@_)", "(0 (0 (1) (2 a)) (2 ~a))", nil, "(0 (1) (2 a))"},
		// The first bounds are taken.
		{"(0 _ ^x@(2 _)) => (0 (1) x@_)", "(0 (1) (3 ~b (4 c (0 (0 (1) (2 a:1)) (2 ~~a:2)) c)))", nil, "(0 (1) (2 ~a:1))"}, {"(0 {(0 x@_ _) | x@_} y@_) => (0 x@_ y@_)", "(0 (0 (1) (2 a:1)) (2 a:2))", nil, "(0 (1) (2 a:2))"}, {"(4 x@_ _ x@_) => (5 x@_)", "(4 c:1 (1) ~c:1)", nil, "(5 c:1)"}, {"(4 x@_ _ x@_) => (5 x@_)", "(4 c:1 (1) ~c:2)", nil, no},
	} {
		tree, ok, err := query.At(g, swap(t, x.swap), plant(t, x.tree), x.path)
		want := []any{x.swap, x.tree, x.want, true, api.OK}
		if x.want == no {
			want = []any{x.swap, x.tree, x.tree, false, api.OK}
		}
		is(t, []any{x.swap, x.tree, drawn(tree), ok, err}, want)
	}
}

// P8.5: the errors of the rule, of the tree, of the path.
func TestAtErrors(t *testing.T) {
	g, right, x := grammar(t, mixed), swap(t, `a => a"1"`), plant(t, "(0 (1) (2 a))")
	for i, c := range []struct {
		g    api.Grammar
		s    api.Swap
		x    api.Tree
		path []int
		want api.Errno
	}{
		{api.Grammar{}, api.Swap{}, api.Tree{Rule: -5}, []int{2}, api.ErrNone}, {g, api.Swap{}, api.Tree{Rule: -5}, []int{2}, api.ErrKind}, {g, swap(t, "a => a"), api.Tree{Rule: -5}, []int{2}, api.ErrForm}, {g, swap(t, "a => (1)"), api.Tree{Rule: -5}, []int{2}, api.ErrType}, {g, right, api.Tree{Rule: -5}, []int{2}, api.ErrKind}, {g, right, leaf("A", "", ""), []int{2}, api.ErrName}, {g, right, node(0), []int{2}, api.ErrRule}, {g, right, node(2, leaf("b", "", "")), []int{2}, api.ErrType},
		{g, right, x, []int{2}, api.ErrNone}, {g, right, x, []int{-1}, api.ErrNone}, {g, right, x, []int{0, 0}, api.ErrNone}, {g, right, x, []int{1, 0, 0}, api.ErrNone}, {g, right, x, []int{math.MinInt}, api.ErrNone}, {g, right, x, []int{1, math.MaxInt}, api.ErrNone}, {g, right, x, make([]int, 200_000), api.ErrNone}, {g, right, x, []int{1, 0}, api.OK},
	} {
		tree, ok, err := query.At(c.g, c.s, c.x, c.path)
		is(t, []any{i, ok, err}, []any{i, c.want == api.OK, c.want})
		if err != api.OK {
			is(t, []any{i, tree}, []any{i, api.Tree{}})
		}
	}
}

// P8.5: the first part in order, and there the first rule.
func TestOnce(t *testing.T) {
	g := grammar(t, mixed)
	one, two, drop := `a"1" => a"2"`, `a => a"3"`, "(0 (0 x@_ _) y@_) => (0 x@_ y@_)"
	for _, x := range []struct {
		l          []string
		tree, want string
		done       string
	}{
		{nil, "(2 a:1)", "(2 a:1)", "{0 []} false"}, {[]string{one}, "(2 ~a:2)", "(2 ~a:2)", "{0 []} false"}, {[]string{one}, "(0 (0 (1) (2 a:2)) (2 ~a:1))", "(0 (0 (1) (2 a:2)) (2 ~a:2))", "{0 [1 0]} true"}, {[]string{one, two}, "(2 a:1)", "(2 a:2)", "{0 [0]} true"}, {[]string{two, one}, "(2 a:1)", "(2 a:3)", "{0 [0]} true"},
		{[]string{one, two}, "(0 (0 (1) (2 a:7)) (2 a:1))", "(0 (0 (1) (2 a:3)) (2 a:1))", "{1 [0 1 0]} true"}, {[]string{one, two, drop}, "(0 (0 (1) (2 a:7)) (2 a:1))", "(0 (1) (2 a:1))", "{2 []} true"}, {[]string{one, drop}, "(0 (0 (0 (1) (2 a:7)) (2 a:8)) (2 a:9))", "(0 (0 (1) (2 a:7)) (2 a:9))", "{1 []} true"}, {[]string{drop, one}, "(0 (1) (3 b (4 c (0 (0 (1) (2 a:1)) (2 a:1)) c)))", "(0 (1) (3 b (4 c (0 (1) (2 a:1)) c)))", "{0 [1 1 1]} true"},
		{[]string{"(1) => (1)"}, "(0 (0 (1) (2 a)) (2 a))", "(0 (0 (1) (2 a)) (2 a))", "{0 [0 0]} true"},
	} {
		tree, done, ok, err := query.Once(g, swaps(t, x.l...), plant(t, x.tree))
		is(t, []any{x.l, x.tree, drawn(tree), fmt.Sprint(done, ok), err}, []any{x.l, x.tree, x.want, x.done, api.OK})
	}
	_, _, _, err := query.Once(g, swaps(t, one), api.Tree{Rule: -5})
	is(t, err, api.ErrKind)
	_, _, _, err = query.Once(g, nil, node(6))
	is(t, err, api.ErrNone)
}

// P8.5: again and again, at most so many times, and whether it could go on.
func TestRewrite(t *testing.T) {
	g := grammar(t, mixed)
	up, down := `a"1" => a"2"`, `(0 (0 x@_ _) y@_) => (0 x@_ y@_)`
	three := "(0 (0 (0 (1) (2 ~a:1)) (2 ~~a:1)) (2 a:1))"
	for _, x := range []struct {
		l    []string
		most int
		want string
		done string
	}{
		{nil, 5, three, "[] true"}, {nil, 0, three, "[] true"}, {[]string{`b => b"1"`}, 0, three, "[] true"}, {[]string{up}, 0, three, "[] false"},
		{[]string{up}, 1, "(0 (0 (0 (1) (2 ~a:2)) (2 ~~a:1)) (2 a:1))", "[{0 [0 0 1 0]}] false"}, {[]string{up}, 2, "(0 (0 (0 (1) (2 ~a:2)) (2 ~~a:2)) (2 a:1))", "[{0 [0 0 1 0]} {0 [0 1 0]}] false"}, {[]string{up}, 3, "(0 (0 (0 (1) (2 ~a:2)) (2 ~~a:2)) (2 a:2))", "[{0 [0 0 1 0]} {0 [0 1 0]} {0 [1 0]}] true"}, {[]string{up}, 1_000, "(0 (0 (0 (1) (2 ~a:2)) (2 ~~a:2)) (2 a:2))", "[{0 [0 0 1 0]} {0 [0 1 0]} {0 [1 0]}] true"},
		{[]string{up, down}, 9, "(0 (1) (2 ~a:2))", "[{1 []} {1 []} {0 [1 0]}] true"}, {[]string{up, down}, 2, "(0 (1) (2 ~a:1))", "[{1 []} {1 []}] false"}, {[]string{"(1) => (1)"}, 2, three, "[{0 [0 0 0]} {0 [0 0 0]}] false"}, {[]string{`a"1" => a"0"`, `a"0" => a"1"`}, 3, "(0 (0 (0 (1) (2 ~a:0)) (2 ~~a:1)) (2 a:1))", "[{0 [0 0 1 0]} {1 [0 0 1 0]} {0 [0 0 1 0]}] false"},
		// What is rewritten can make parts around it fit.
		{[]string{`(0 (0 (1) (2 a"2")) _) => (1)`, up}, 9, "(0 (1) (2 a:2))", "[{1 [0 0 1 0]} {0 [0]} {1 [1 0]}] true"},
	} {
		tree, done, ok, err := query.Rewrite(g, swaps(t, x.l...), plant(t, three), x.most)
		is(t, []any{x.l, x.most, drawn(tree), fmt.Sprint(done, ok), err}, []any{x.l, x.most, x.want, x.done, api.OK})
	}
}

// P8.5: ErrArg stands behind the errors of the rules, and ahead of those of the tree.
func TestRewriteErrors(t *testing.T) {
	g, l := grammar(t, mixed), swaps(t, `a => a"1"`)
	for i, c := range []struct {
		l    []api.Swap
		x    api.Tree
		most int
		want api.Errno
	}{
		{swaps(t, "a => a"), api.Tree{Rule: -5}, -1, api.ErrForm}, {l, api.Tree{Rule: -5}, -1, api.ErrArg}, {l, api.Tree{Rule: -5}, 1_001, api.ErrArg}, {l, api.Tree{Rule: -5}, math.MinInt, api.ErrArg}, {l, api.Tree{Rule: -5}, math.MaxInt, api.ErrArg}, {l, api.Tree{Rule: -5}, 1_000, api.ErrKind}, {l, node(1, node(1)), 0, api.ErrRule}, {l, node(1), 0, api.OK}, {l, node(1), 1_000, api.OK},
	} {
		_, _, _, err := query.Rewrite(g, c.l, c.x, c.most)
		is(t, []any{i, err}, []any{i, c.want})
	}
}

// The example of the chapter.
func TestExample(t *testing.T) {
	g := grammar(t, sums)
	x := plant(t, "(0 (1 num:7) ~plus (1 ~num:0))")
	b, ok, err := query.Fits(g, ask(t, "(0 x@_ plus (1 num\"0\"))"), x)
	is(t, []any{shown(b), ok, err}, []any{"x=(1 num:7);", true, api.OK})
	y, ok, err := query.At(g, swap(t, "(0 x@_ plus (1 num\"0\")) => x@_"), x, nil)
	is(t, []any{drawn(y), ok, err}, []any{"(1 num:7)", true, api.OK})
}
