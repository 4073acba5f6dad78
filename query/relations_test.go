package query_test

import (
	"fmt"
	"testing"

	"hedgelayer/api"
	"hedgelayer/query"
)

// P8.6: which queries cover which.
func TestCovers(t *testing.T) {
	g := grammar(t, mixed)
	list := []string{"_", "a", `a"1"`, `a"2"`, "b", "(1)", "(0 _ _)", "(0 x@(1) _)", "(0 _ x@(2 _))", `(0 (1) (2 a"1"))`, "(0 (0 (1) _) (2 a))", "(2 _)"}
	// For each of the list, which ones it covers.
	for i, want := range []string{"111111111111", "011100000000", "001000000000", "000100000000", "000010000000", "000001000000", "000000111110", "000000010100", "000000001110", "000000000100", "000000000010", "000000000001"} {
		got := ""
		for _, text := range list {
			ok, err := query.Covers(g, ask(t, list[i]), ask(t, text))
			is(t, err, api.OK)
			got += fmt.Sprint(map[bool]int{true: 1}[ok])
		}
		is(t, []any{list[i], got}, []any{list[i], want})
	}
}

// P8.6: what fits just what both fit.
func TestUnify(t *testing.T) {
	g := grammar(t, mixed)
	const no = "no"
	for _, x := range [][3]string{
		{"_", "_", "_"}, {"_", "a", "a"}, {"_", `a"1"`, `a"1"`}, {"a", "a", "a"}, {"a", `a"1"`, `a"1"`}, {`a"1"`, `a"1"`, `a"1"`}, {`a"1"`, `a"2"`, no}, {"a", "b", no}, {"a", "(1)", no}, {"_", "x@(0 z@_ y@(2 _))", "(0 _ (2 _))"}, {"x@a", "y@a", "a"}, {"(0 _ _)", "(1)", no}, {"(2 _)", "(5 _)", no},
		{"(0 (1) _)", "(0 _ (2 _))", "(0 (1) (2 _))"}, {"(0 (1) _)", "(0 (0 _ _) _)", no}, {"(0 (1) (2 _))", "(0 _ (3 _ _))", no}, {"(0 (0 _ (2 a)) (3 _ _))", `(0 (0 (1) (2 a"1")) _)`, `(0 (0 (1) (2 a"1")) (3 _ _))`}, {"(4 c (1) c\"1\")", "(4 c\"2\" _ c)", "(4 c\"2\" (1) c\"1\")"}, {"(4 c\"1\" _ _)", "(4 c\"2\" _ _)", no},
		{"x@(0 _ _)", "(0 x@_ y@_)", "(0 _ _)"}, {"(2 _)", "(2 x@a\"1\")", "(2 a\"1\")"}, {"(0 _ _)", "_", "(0 _ _)"},
	} {
		for _, i := range []int{0, 1} {
			q, ok, err := query.Unify(g, ask(t, x[i]), ask(t, x[1-i]))
			if x[2] == no {
				is(t, []any{x, q, ok, err}, []any{x, api.Query{}, false, api.OK})
				continue
			}
			is(t, []any{x, q, ok, err}, []any{x, ask(t, x[2]), true, api.OK})
		}
	}
}

// P8.6: the errors of both queries come ahead of ErrState.
func TestPlainErrors(t *testing.T) {
	g := grammar(t, mixed)
	for _, x := range []struct {
		p, q string
		want api.Errno
	}{
		{"a", "x@(0 y@_ z@_)", api.OK}, {"{a | a}", "d", api.ErrNone}, {"d", "x@_", api.ErrNone}, {"x@_", "d", api.ErrState}, {"!a", "(0 a _)", api.ErrType}, {"(0 a _)", "!a", api.ErrType}, {"{a | a}", "(1 _)", api.ErrRule},
		{"{a | a}", "a", api.ErrState}, {"a", "{a | a}", api.ErrState}, {"!a", "a", api.ErrState}, {"a", "^a", api.ErrState}, {"_", "(0 ^(1) _)", api.ErrState}, {"(0 _ !(2 _))", "_", api.ErrState}, {"(0 {_ | _} _)", "_", api.ErrState}, {"(4 x@_ _ x@_)", "_", api.ErrState}, {"_", "(4 x@_ _ x@c)", api.ErrState}, {"x@(0 x@_ _)", "_", api.ErrState}, {"(4 x@_ _ y@_)", "(4 x@_ _ y@_)", api.OK},
	} {
		covers, a := query.Covers(g, ask(t, x.p), ask(t, x.q))
		q, ok, b := query.Unify(g, ask(t, x.p), ask(t, x.q))
		is(t, []any{x, a, b}, []any{x, x.want, x.want})
		if x.want != api.OK {
			is(t, []any{x, covers, q, ok}, []any{x, false, api.Query{}, false})
		}
	}
	_, err := query.Covers(api.Grammar{}, api.Query{}, api.Query{})
	is(t, err, api.ErrNone)
	_, _, err = query.Unify(api.Grammar{}, api.Query{}, api.Query{})
	is(t, err, api.ErrNone)
	_, err = query.Covers(g, anyPart(), api.Query{Op: 1, Rule: 1})
	is(t, err, api.ErrForm)
}

// P8.6: where rules get into each other's way.
func TestOverlaps(t *testing.T) {
	g := grammar(t, mixed)
	for _, x := range []struct {
		l    []string
		want string
	}{
		{nil, "[]"}, {[]string{`a => a"1"`}, "[]"}, {[]string{"(0 x@_ _) => x@_"}, "[]"}, {[]string{"(0 (0 x@_ _) _) => x@_"}, "[{0 0 [0]}]"}, {[]string{"(0 (0 x@_ (2 _)) (3 _ _)) => x@_"}, "[]"}, {[]string{"(0 (0 (0 _ _) _) _) => (1)"}, "[{0 0 [0]} {0 0 [0 0]}]"},
		{[]string{`a => a"1"`, `a"1" => a"2"`, `a"2" => a"3"`}, "[{0 1 []} {0 2 []} {1 0 []} {2 0 []}]"}, {[]string{`(2 a) => (2 a"1")`, `a"1" => a"2"`}, "[{0 1 [0]}]"}, {[]string{`a"1" => a"2"`, `(2 a) => (2 a"1")`}, "[{1 0 [0]}]"}, {[]string{`(2 a"2") => (2 a"1")`, `a"1" => a"2"`}, "[]"}, {[]string{`(2 x@_) => (2 x@_)`, `a"1" => a"2"`}, "[]"},
		{[]string{"(0 (1) x@(2 y@a)) => (0 (1) x@_)", "(0 x@_ y@(2 _)) => (0 x@_ y@_)", "(2 x@_) => (2 x@_)"}, "[{0 1 []} {0 2 [1]} {1 0 []} {1 2 [1]}]"}, {[]string{"(0 (0 _ _) (3 _ (4 c (0 _ _) c))) => (1)", "(0 (1) (3 _ _)) => (1)"}, "[{0 0 [0]} {0 0 [1 1 1]} {0 1 [0]} {0 1 [1 1 1]}]"},
		{[]string{"(0 (0 _ _) _) => (1)", "(0 (0 _ _) _) => (1)"}, "[{0 0 [0]} {0 1 []} {0 1 [0]} {1 0 []} {1 0 [0]} {1 1 [0]}]"},
	} {
		list, err := query.Overlaps(g, swaps(t, x.l...))
		is(t, []any{x.l, list, err}, []any{x.l, x.want, api.OK})
	}
	for _, text := range []string{"(0 {x@_ | x@_} _) => x@_", "(0 !(1) _) => (1)", "(0 ^(1) _) => (1)", "(4 x@_ _ x@_) => (5 x@_)"} {
		list, err := query.Overlaps(g, swaps(t, "(1) => (1)", text))
		is(t, []any{text, list, err}, []any{text, []api.Overlap{}, api.ErrState})
		list, err = query.Overlaps(g, swaps(t, text, "(1) => (9)"))
		is(t, []any{text, list, err}, []any{text, []api.Overlap{}, api.ErrNone})
	}
	list, err := query.Overlaps(grammar(t, wide), swaps(t, "(2 (2 (2 (2 (3) (2 (3) _)) x@_) _) (3)) => x@_", "(3) => (3)"))
	is(t, []any{list, err}, []any{"[{0 1 [0 0 0 0]} {0 1 [0 0 0 1 0]} {0 1 [1]}]", api.OK})
	list, err = query.Overlaps(grammar(t, wide), swaps(t, "(2 (2 (2 (2 (3) (3)) (3)) x@_) _) => x@_", "(3) => (3)"))
	is(t, []any{list, err}, []any{"[{0 1 [0 0 0 0]} {0 1 [0 0 0 1]} {0 1 [0 0 1]}]", api.OK})
	// What To has does not matter: there a name can stand twice.
	list, err = query.Overlaps(g, swaps(t, "(0 x@_ y@_) => (0 (0 x@_ y@_) y@_)"))
	is(t, []any{list, err}, []any{[]api.Overlap{}, api.OK})
}
