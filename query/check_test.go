package query_test

import (
	"fmt"
	"math"
	"slices"
	"strings"
	"testing"

	"hedgelayer/api"
	"hedgelayer/gram"
	"hedgelayer/query"
	"hedgelayer/tree"
)

func is(t *testing.T, got, want any) {
	t.Helper()
	a, b := fmt.Sprint(got), fmt.Sprint(want)
	if a != b {
		t.Errorf("got %.1000s, want %.1000s", a, b)
	}
}

// grammar reads a grammar that must be right.
func grammar(t *testing.T, text string) api.Grammar {
	t.Helper()
	g, line, err := gram.Read(text)
	is(t, []any{text, line, err}, []any{text, 0, api.OK})
	return g
}

// ask reads a query that must be right.
func ask(t *testing.T, text string) api.Query {
	t.Helper()
	q, at, err := query.Read(text)
	is(t, []any{text, at, err}, []any{text, 0, api.OK})
	return q
}

// read reads a tree that must be right.
func read(t *testing.T, text string) api.Tree {
	t.Helper()
	x, at, err := tree.Read(text)
	is(t, []any{text, at, err}, []any{text, 0, api.OK})
	return x
}

// dump writes a tree; of a zero tree, which errors come with, it is (0), too.
func dump(x api.Tree) string {
	s, err := tree.Dump(x)
	return s + strings.Repeat("?", int(err))
}

func leaf(kind, lead, text string) api.Tree {
	return api.Tree{Rule: -1, Token: api.Token{Kind: kind, Lead: lead, Text: text}}
}

func node(rule int, kids ...api.Tree) api.Tree { return api.Tree{Rule: rule, Kids: kids} }

func anyPart() api.Query { return api.Query{Op: api.QueryAny} }

func nodes(rule int, args ...api.Query) api.Query {
	return api.Query{Op: api.QueryNode, Rule: rule, Args: args}
}

func deep(q api.Query) api.Query { return api.Query{Op: api.QueryDeep, Args: []api.Query{q}} }

// chained is q below n queries of one Arg.
func chained(n int, q api.Query) api.Query {
	for range n {
		q = deep(q)
	}
	return q
}

// sums is the grammar of the example of the chapter.
const sums = "tokens num plus\nstart e\ne = e plus e\ne = num\n"

// mixed is a grammar of several Lefts, of which one can be empty.
const mixed = "tokens a b c\nstart s\ns = s x\ns =\nx = a\nx = b y\ny = c s c\ny = c\n"

func checked(t *testing.T, q api.Query, want api.Errno) {
	t.Helper()
	is(t, []any{q, query.CheckQuery(q)}, []any{q, want})
}

// P8.1: queries that are right.
func TestCheckQuery(t *testing.T) {
	long := strings.Repeat("a", 40)
	for _, q := range []api.Query{
		anyPart(), {Op: api.QueryAny, Bind: "x"}, {Op: api.QueryAny, Bind: long, Args: []api.Query{}},
		{Op: api.QueryLeaf, Kind: "a"}, {Op: api.QueryLeaf, Kind: long, Bind: "z_9", Text: "\x00\xff", Lead: "\n"}, {Op: api.QueryLeaf, Kind: "a", Lead: "x"},
		nodes(0), nodes(99, anyPart()), {Op: api.QueryNode, Bind: "x", Rule: 99, Args: slices.Repeat([]api.Query{anyPart()}, 196)},
		{Op: api.QueryEither, Args: []api.Query{anyPart(), anyPart()}}, {Op: api.QueryNot, Args: []api.Query{anyPart()}}, deep(anyPart()),
	} {
		checked(t, q, api.OK)
		checked(t, nodes(1, anyPart(), nodes(2, q)), api.OK)
	}
}

// P8.1: what can be wrong with one query, also within others.
func TestCheckQueryPart(t *testing.T) {
	one, two := []api.Query{anyPart()}, []api.Query{anyPart(), anyPart()}
	wrong := map[api.Errno][]api.Query{
		api.ErrKind: {{}, {Op: -1}, {Op: 7}, {Op: math.MinInt}, {Op: math.MaxInt}, {Op: 7, Args: one}, {Bind: "x"}},
		api.ErrForm: {
			{Op: api.QueryAny, Kind: "a"}, {Op: api.QueryAny, Lead: "a"}, {Op: api.QueryAny, Text: "a"}, {Op: api.QueryAny, Rule: 1}, {Op: api.QueryAny, Rule: -1}, {Op: api.QueryAny, Args: one},
			{Op: api.QueryLeaf, Kind: "a", Rule: 1}, {Op: api.QueryLeaf, Kind: "a", Rule: -1}, {Op: api.QueryLeaf, Kind: "a", Args: one},
			{Op: api.QueryNode, Kind: "a"}, {Op: api.QueryNode, Lead: "a"}, {Op: api.QueryNode, Text: "a"},
			{Op: api.QueryEither, Args: one}, {Op: api.QueryEither}, {Op: api.QueryEither, Args: slices.Concat(one, two)},
			{Op: api.QueryNot}, {Op: api.QueryNot, Args: two}, {Op: api.QueryDeep}, {Op: api.QueryDeep, Args: two},
		},
		api.ErrName: {{Op: api.QueryLeaf}, {Op: api.QueryLeaf, Text: "a"}},
		api.ErrArg:  {nodes(-1), nodes(100), nodes(math.MinInt), nodes(math.MaxInt)},
	}
	for op, args := range map[int][]api.Query{api.QueryEither: two, api.QueryNot: one, api.QueryDeep: one} {
		for _, q := range []api.Query{{Bind: "x"}, {Kind: "a"}, {Lead: "a"}, {Text: "a"}, {Rule: 1}} {
			q.Op, q.Args = op, args
			wrong[api.ErrForm] = append(wrong[api.ErrForm], q)
		}
	}
	for _, name := range []string{"_", "0", "A", "a-b", "a ", "é", "a\x00", "a@", strings.Repeat("a", 41)} {
		wrong[api.ErrName] = append(wrong[api.ErrName], api.Query{Op: api.QueryAny, Bind: name}, api.Query{Op: api.QueryLeaf, Kind: name}, api.Query{Op: api.QueryLeaf, Kind: "a", Bind: name}, api.Query{Op: api.QueryNode, Bind: name})
	}
	for err, list := range wrong {
		for _, q := range list {
			checked(t, q, err)
			checked(t, nodes(0, anyPart(), deep(q), api.Query{Op: 9}), err)
			checked(t, api.Query{Op: api.QueryEither, Args: []api.Query{nodes(0, q), {Op: 9}}}, err)
		}
	}
}

// P8.1: which error comes first.
func TestCheckQueryOrder(t *testing.T) {
	q := api.Query{Op: 9, Bind: "X", Kind: "X", Rule: -1, Args: []api.Query{{Op: 9}}}
	checked(t, q, api.ErrKind)
	q.Op = api.QueryNode
	checked(t, q, api.ErrForm)
	q.Kind = ""
	checked(t, q, api.ErrName)
	q.Bind = ""
	checked(t, q, api.ErrArg)
	q.Rule = 0
	checked(t, q, api.ErrKind)
	checked(t, nodes(0, nodes(100, api.Query{}), api.Query{}), api.ErrArg)
	checked(t, nodes(0, deep(nodes(1, nodes(100))), api.Query{}), api.ErrArg)
	checked(t, chained(30, api.Query{Op: 9}), api.ErrLarge)
	checked(t, chained(29, api.Query{Op: 9}), api.ErrKind)
	checked(t, nodes(0, append(slices.Repeat([]api.Query{anyPart()}, 199), api.Query{})...), api.ErrLarge)
	checked(t, nodes(0, append(slices.Repeat([]api.Query{anyPart()}, 198), api.Query{})...), api.ErrKind)
}

// asked compares the error of Check for the query of a text.
func asked(t *testing.T, g api.Grammar, text string, want api.Errno) {
	t.Helper()
	is(t, []any{text, query.Check(g, ask(t, text))}, []any{text, want})
}

// P8.2: the errors of a query for a grammar.
func TestCheck(t *testing.T) {
	g := grammar(t, mixed)
	for err, texts := range map[api.Errno][]string{
		api.OK: {
			"_", "a", "a\"x\"", "x@a", "x@(0 _ _)", "(1)", "(0 y@_ x@(2 _))", "(4 c x@_ c)", "{a | b}", "!a", "^a", "!!a", "^^x@a", "{_ | !_}", "^!(1)",
			"(4 x@c _ x@_)", "(0 {(1) | (0 _ _)} _)", "(0 _ {(2 _) | (3 _ _)})", "(0 _ {(2 _) | _})", "(0 ^(4 c x@_ c) (3 b y@_))", "(0 {x@_ | x@(1)} _)", "(0 !(1) !(2 _))", "(0 _ ^c)", "(0 _ !{(2 a) | _})",
			"{x@a | x@a}", "{x@(1) | (0 x@_ _)}", "(0 {x@_ | x@_} {y@_ | y@_})", "(0 ^x@a ^y@a)", "(0 {x@_ | x@_} (3 b (4 c y@_ c)))", "{x@a | x@a\"1\"}", "^^(0 x@_ _)", "{(0 x@_ y@_) | (0 x@(1) y@(2 _))}",
		},
		api.ErrNone:  {"d", "(6)", "(99)", "^d", "(0 d _)", "(0 (1) (6))", "!d", "{_ | d}"},
		api.ErrRule:  {"(0)", "(0 _)", "(0 _ _ _)", "(1 _)", "(0 (1 _) _)", "(0 (4 c c) _)", "{(0) | _}", "^(4)", "!(4)"},
		api.ErrType:  {"(2 b)", "(0 (2 _) _)", "(0 a _)", "(0 _ (0 _ _))", "(4 c (5 _) c)", "(0 {(2 _) | (2 _)} _)", "(0 {(1) | (2 _)} _)", "(0 {_ | (2 _)} _)", "(0 !(2 _) _)", "(0 !a _)", "^(2 b)", "(0 x@_ x@_)", "(0 x@_ (3 b (4 c _ x@_)))", "{x@a | x@b}", "(0 _ {{(1) | (1)} | _})"},
		api.ErrForm:  {"a\"x\",\" \"", "a\"\",\" \"", "(2 a\"\",\" \")", "!a\"\",\"x\""},
		api.ErrState: {"x@_", "!x@a", "^x@_", "{x@_ | x@_}", "{x@_ | a}", "{a | x@_}", "!x@(1)", "(0 !x@_ _)", "(0 !(0 x@_ _) _)", "(0 ^x@_ _)", "!^x@a", "!{x@a | x@a}", "^!(0 _ x@_)"},
	} {
		for _, text := range texts {
			asked(t, g, text, err)
		}
	}
	asked(t, g, "{x@a | a}", api.ErrConflict)
	asked(t, g, "{a | x@a}", api.ErrConflict)
	asked(t, g, "{x@a | y@a}", api.ErrConflict)
	asked(t, g, "^{(0 x@_ y@_) | (0 x@_ _)}", api.ErrConflict)
	asked(t, g, "(0 x@_ {(3 b _) | y@_})", api.ErrConflict)
}

// P8.2: names within a QueryEither or a QueryDeep are not bound outside of it.
func TestCheckOutside(t *testing.T) {
	g := grammar(t, mixed)
	for _, text := range []string{
		"(0 x@_ ^x@(1))", "(0 ^x@(1) (3 b (4 c x@_ c)))", "(0 ^x@(1) ^x@(1))", "x@(0 ^x@(1) _)", "(0 {x@_ | x@_} ^x@(1))", "(0 x@_ (3 b (4 c {x@_ | x@_} c)))", "(0 {x@_ | x@_} (3 b (4 c {x@_ | x@_} c)))",
		"{{x@a | x@a} | x@a}", "{x@a | {x@a | x@a}}", "{^x@a | x@a}", "{x@a | ^x@a}", "{x@(1) | ^(0 x@_ _)}", "{^x@a | ^x@a}", "^(0 x@(1) ^x@(1))",
	} {
		asked(t, g, text, api.ErrRule)
	}
}

// P8.2: which error comes first.
func TestCheckOrder(t *testing.T) {
	g := grammar(t, mixed)
	is(t, query.Check(api.Grammar{Kinds: []string{"b", "a"}}, api.Query{}), api.ErrOrder)
	is(t, query.Check(api.Grammar{}, api.Query{Op: 1, Rule: 1}), api.ErrNone)
	is(t, query.Check(g, nodes(0, api.Query{Op: api.QueryLeaf, Kind: "d"}, api.Query{})), api.ErrKind)
	for text, want := range map[string]api.Errno{
		// The rules of all queries come ahead of sorts.
		"(2 b (1))": api.ErrRule, "(0 a (1 _))": api.ErrRule, "(0 x@a d)": api.ErrNone, "(0 (1 _) d)": api.ErrRule, "(0 (0 d) (1 _))": api.ErrRule, "(0 d (1 _))": api.ErrNone, "!x@(1 _)": api.ErrRule,
		// Sorts and names come query by query.
		"(0 (2 a\"\",\" \") _)": api.ErrType, "(2 x@b\"\",\" \")": api.ErrType, "!x@a\"\",\" \"": api.ErrForm, "(0 !x@(1) (2 b))": api.ErrState, "(0 !(0 _ a) !x@(2 _))": api.ErrType, "(0 _ (2 a\"\",\" \"))": api.ErrForm,
		"{x@a | x@b\"\",\" \"}": api.ErrForm, "(0 x@_ (2 x@b))": api.ErrType, "(0 x@_ !x@_)": api.ErrState,
		// All of them come ahead of what is asked of QueryEither and QueryDeep.
		"(0 {x@_ | _} a)": api.ErrType, "(0 {x@_ | _} (2 a\"\",\" \"))": api.ErrForm, "(0 {x@_ | _} !y@_)": api.ErrState, "(0 {x@_ | _} x@_)": api.ErrType,
		// These come query by query, too.
		"(0 {x@_ | _} ^x@(1))": api.ErrConflict, "(0 ^x@(1) (3 b (4 c {x@_ | _} c)))": api.ErrRule, "(0 {^x@(1) | x@_} ^{y@a | a})": api.ErrRule, "{{x@a | a} | x@a}": api.ErrConflict, "{x@a | ^{a | x@a}}": api.ErrRule, "{^{x@a | a} | a}": api.ErrConflict, "{x@a | {a | {x@a | x@a}}}": api.ErrConflict,
	} {
		asked(t, g, text, want)
	}
}

// P8.2: which names there are, and for which sorts they stand.
func TestBinds(t *testing.T) {
	g := grammar(t, mixed)
	for text, want := range map[string]string{
		"_": "[]", "!{a | ^b}": "[]", "x@a": "[{x a}]", "x@(5 y@_)": "[{x y} {y c}]", "z@(0 y@_ x@_)": "[{x x} {y s} {z s}]", "(0 x@_ (3 b (4 c x@(1) _)))": "[{x s}]",
		"(0 {x@_ | (0 x@_ _)} ^{x9@a\"1\" | (2 x9@_)})": "[{x s} {x9 a}]", "^(4 b_@c ba@_ bb@_)": "[{b_ c} {ba s} {bb c}]",
	} {
		list, err := query.Binds(g, ask(t, text))
		is(t, []any{text, list, err}, []any{text, want, api.OK})
	}
	list, err := query.Binds(g, ask(t, "x@_"))
	is(t, []any{list, err}, []any{[]api.Pair{}, api.ErrState})
	list, err = query.Binds(api.Grammar{}, ask(t, "x@a"))
	is(t, []any{list, err}, []any{[]api.Pair{}, api.ErrNone})
}
