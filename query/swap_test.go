package query_test

import (
	"strings"
	"testing"

	"hedgelayer/api"
	"hedgelayer/query"
)

// swap is a rule of rewriting that is told as From => To.
func swap(t *testing.T, text string) api.Swap {
	t.Helper()
	from, to, _ := strings.Cut(text, " => ")
	return api.Swap{From: ask(t, from), To: ask(t, to)}
}

// swaps are rules of rewriting.
func swaps(t *testing.T, texts ...string) []api.Swap {
	t.Helper()
	var l []api.Swap
	for _, text := range texts {
		l = append(l, swap(t, text))
	}
	return l
}

// P8.4: what is wrong with a rule of rewriting.
func TestCheckSwap(t *testing.T) {
	g := grammar(t, mixed)
	for want, texts := range map[api.Errno][]string{
		api.OK: {
			`a => a"1"`, `a => a"1"," "`, `a"1" => a"2","x"`, "x@a => x@_", "(1) => (1)", "(0 x@_ _) => x@_", "(0 _ _) => (1)", "(0 x@_ y@_) => (0 (0 x@_ y@_) y@_)", "x@(0 _ _) => (0 (0 x@_ (2 a\"1\")) (3 b\"\\00\" (5 c\"x\")))", "(4 x@_ y@_ z@_) => (4 z@_ y@_ x@_)", "(0 _ {x@(2 _) | x@(3 _ _)}) => (0 (1) x@_)", "(0 _ ^y@(4 _ _ _)) => (0 (1) (3 b\"1\" y@_))", "(0 x@_ x9@(3 _ _)) => (0 (1) x9@_)", "(0 !(1) x@_) => (0 (1) x@_)",
		},
		api.ErrForm: {
			"_ => _", "{a | a} => a\"1\"", "!a => a\"1\"", "^a => a\"1\"", "^x@(1) => x@_", "a => _", "a => a", "a => a\"\",\" \"", "a => x@a\"1\"", "(1) => x@(1)", "(1) => {(1) | (1)}", "(1) => !(0 _ _)", "(1) => ^(1)", "(0 x@_ _) => (0 x@_ _)", "(0 x@_ _) => (0 x@_ (2 a))", "(0 x@_ y@_) => (0 !x@_ y@_)", "a\"1\",\" \" => a\"1\"",
		},
		api.ErrNone:     {"d => a\"1\"", "a => d\"1\"", "(1) => (6)", "(1) => (0 (1) (99))", "(1) => (0 (1) (2 d\"1\"))", "(0 x@_ _) => y@_", "(1) => x@_", "(0 x@_ _) => (0 x@_ y@_)", "(0 !(1) _) => x@_"},
		api.ErrRule:     {"(0 _) => (1)", "(1) => (0 (1))", "(1) => (1 (1))", "(1) => (0 (1) (2))"},
		api.ErrType:     {"(0 a _) => (1)", "a => b\"1\"", "a => (1)", "(1) => a\"1\"", "(1) => (2 a\"1\")", "(1) => (0 (1) (1))", "(1) => (0 (1) (2 b\"1\"))", "(0 x@_ _) => (0 (1) x@_)", "(0 _ x@_) => x@_", "x@(0 _ _) => (0 (1) (2 x@_))", "(2 x@_) => (3 x@_ (5 c\"1\"))", "(4 x@_ _ _) => (4 c\"1\" x@_ c\"1\")"},
		api.ErrState:    {"(0 !x@_ _) => (1)", "x@_ => x@_"},
		api.ErrConflict: {"(0 {x@_ | _} _) => (1)"},
	} {
		for _, text := range texts {
			is(t, []any{text, query.CheckSwap(g, swap(t, text))}, []any{text, want})
		}
	}
}

// P8.4: which error of a rule of rewriting comes first.
func TestCheckSwapOrder(t *testing.T) {
	g := grammar(t, mixed)
	bad := api.Query{Op: 9}
	is(t, query.CheckSwap(api.Grammar{}, api.Swap{From: bad}), api.ErrNone)
	is(t, query.CheckSwap(g, api.Swap{From: nodes(100), To: bad}), api.ErrArg)
	is(t, query.CheckSwap(g, api.Swap{From: anyPart(), To: bad}), api.ErrForm)
	is(t, query.CheckSwap(g, api.Swap{From: ask(t, "a"), To: bad}), api.ErrKind)
	is(t, query.CheckSwap(g, api.Swap{From: ask(t, "a"), To: nodes(0, ask(t, "_"), bad)}), api.ErrKind)
	for text, want := range map[string]api.Errno{
		"(0 (1 _) _) => _": api.ErrRule, "(0 a _) => _": api.ErrType, "{a | x@a} => d": api.ErrConflict, "^a => d": api.ErrForm,
		// Forms and rules of To come query by query, then sorts.
		"(1) => (0 _ d)": api.ErrForm, "(1) => (0 (6) _)": api.ErrNone, "(1) => (0 d\"1\" x@a)": api.ErrNone, "(1) => (0 (1 (6)) _)": api.ErrRule, "a => (0 (1) (2))": api.ErrRule, "a => (0 (1) (2 a))": api.ErrForm, "(1) => (0 a\"1\" (2))": api.ErrRule, "a => y@(9)": api.ErrForm,
		// Names come last, one by one.
		"a => (0 x@_ y@_)": api.ErrType, "(0 x@_ y@_) => (0 z@_ x@_)": api.ErrNone, "(0 x@_ y@_) => (0 y@_ z@_)": api.ErrType, "(0 x@_ y@_) => (0 y@_ (2 b\"1\"))": api.ErrType, "(0 x@_ y@_) => (0 z@_ (2 b\"1\"))": api.ErrType,
	} {
		is(t, []any{text, query.CheckSwap(g, swap(t, text))}, []any{text, want})
	}
}

// P8.4: functions with several rules return the errors of the grammar, of the number of rules, and of each rule in order.
func TestSwapsOrder(t *testing.T) {
	g, right, x := grammar(t, mixed), swap(t, "a => a\"1\""), api.Tree{Rule: -5}
	many := make([]api.Swap, api.MaxSwaps+1)
	for i, c := range []struct {
		g    api.Grammar
		l    []api.Swap
		want api.Errno
	}{
		{api.Grammar{}, many, api.ErrNone}, {g, many, api.ErrLarge}, {g, many[:api.MaxSwaps], api.ErrKind}, {g, []api.Swap{right, swap(t, "(0 a _) => _"), {}}, api.ErrType}, {g, []api.Swap{right, swap(t, "(1) => x@_"), {}}, api.ErrNone}, {g, []api.Swap{right, {}, swap(t, "(1) => x@_")}, api.ErrKind},
	} {
		_, _, _, a := query.Once(c.g, c.l, x)
		_, _, _, b := query.Rewrite(c.g, c.l, x, -1)
		_, d := query.Overlaps(c.g, c.l)
		is(t, []any{i, a, b, d}, []any{i, c.want, c.want, c.want})
	}
}

// bounds are names with trees.
func bounds(t *testing.T, text string) []api.Bound {
	t.Helper()
	var b []api.Bound
	for _, s := range strings.Split(text, ";") {
		if name, part, ok := strings.Cut(s, "="); ok {
			b = append(b, api.Bound{Name: name, Part: plant(t, part)})
		}
	}
	return b
}

// P8.4: trees that are made of forms.
func TestBuild(t *testing.T) {
	g := grammar(t, mixed)
	for _, x := range []struct{ form, bounds, want string }{
		{`a"1"`, "", "a:1"}, {`a"1"," "`, "", "~a:1"}, {`d1@_`, "d0=(1);d1=~a:1;d2=a", "~a:1"}, {"(1)", "x=(1)", "(1)"}, {"x@_", "x=(0 (1) (3 ~b (5 c:1)))", "(0 (1) (3 ~b (5 c:1)))"},
		{`(0 (0 x@_ y@_) (3 b"1","  " z@_))`, "x=(0 (1) (2 a));y=(2 ~a:1);z=(4 c (1) c)", "(0 (0 (0 (1) (2 a)) (2 ~a:1)) (3 ~~b:1 (4 c (1) c)))"}, {"(4 x@_ y@_ x@_)", "x=~c:9;y=(1)", "(4 ~c:9 (1) ~c:9)"}, {"(5 x@_)", "x=c", "(5 c)"},
	} {
		tree, err := query.Build(g, ask(t, x.form), bounds(t, x.bounds))
		is(t, []any{x.form, drawn(tree), err}, []any{x.form, x.want, api.OK})
	}
}

// P8.4: what is wrong with a form or its bounds, and which error comes first.
func TestBuildErrors(t *testing.T) {
	g := grammar(t, mixed)
	for _, x := range []struct {
		form, bounds string
		want         api.Errno
	}{
		{"_", "X=(1)", api.ErrForm}, {"a", "X=(1)", api.ErrForm}, {"x@a\"1\"", "X=(1)", api.ErrForm}, {"x@(1)", "", api.ErrForm}, {"{(1) | (1)}", "", api.ErrForm}, {"!(1)", "", api.ErrForm}, {"^(1)", "", api.ErrForm}, {"d\"1\"", "X=(1)", api.ErrNone}, {"(6)", "X=(1)", api.ErrNone}, {"(1 x@_)", "X=(1)", api.ErrRule}, {"(0 (2 a\"1\") x@_)", "X=(1)", api.ErrType}, {"(2 b\"1\")", "", api.ErrType},
		{"x@_", "X=(1)", api.ErrName}, {"x@_", "=(1)", api.ErrName}, {"x@_", strings.Repeat("x", 41) + "=(1)", api.ErrName}, {"x@_", "x=(7);X=(1)", api.ErrNone}, {"x@_", "x=(1);x=(7)", api.ErrOrder}, {"x@_", "y=(1);x=(7)", api.ErrOrder}, {"x@_", "x=(1);x0=(1);w=a", api.ErrOrder}, {"x@_", "x=(1);y=(1 a)", api.ErrRule}, {"x@_", "x=(1);y=d", api.ErrNone}, {"x@_", "x=(1);y=(2 b)", api.ErrType}, {"x@_", "x=(1);y=(1);Z=(2 b)", api.ErrName},
		{"x@_", "", api.ErrNone}, {"x@_", "w=(1);y=(1)", api.ErrNone}, {"(0 x@_ y@_)", "x=(2 a);z=(1)", api.ErrType}, {"(0 w@_ x@_)", "x=(1)", api.ErrNone}, {"(0 x@_ w@_)", "x=(1)", api.ErrNone}, {"(0 x@_ x@_)", "x=(1)", api.ErrType}, {"(2 x@_)", "x=(2 a)", api.ErrType}, {"(2 x@_)", "x=b", api.ErrType}, {"(0 x@_ (2 y@_))", "x=(1);y=a", api.OK},
	} {
		tree, err := query.Build(g, ask(t, x.form), bounds(t, x.bounds))
		is(t, []any{x.form, x.bounds, err}, []any{x.form, x.bounds, x.want})
		if err != api.OK {
			is(t, tree, api.Tree{})
		}
	}
	_, err := query.Build(api.Grammar{}, api.Query{}, nil)
	is(t, err, api.ErrNone)
	_, err = query.Build(g, nodes(100), bounds(t, "X=(1)"))
	is(t, err, api.ErrArg)
	_, err = query.Build(g, ask(t, "_"), make([]api.Bound, 201))
	is(t, err, api.ErrForm)
	_, err = query.Build(g, ask(t, "x@_"), make([]api.Bound, 201))
	is(t, err, api.ErrLarge)
}
