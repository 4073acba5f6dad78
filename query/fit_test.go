package query_test

import (
	"fmt"
	"regexp"
	"strings"
	"testing"

	"hedgelayer/api"
	"hedgelayer/query"
)

var tokenForm = regexp.MustCompile(`(~*)([a-z]+)(?::(\w*))?`)

// plant reads a tree whose leaves are told as a kind, possibly with a colon and a Text behind it, and ahead of it a ~ for each blank of the Lead.
func plant(t *testing.T, text string) api.Tree {
	t.Helper()
	return read(t, tokenForm.ReplaceAllStringFunc(text, func(s string) string {
		m := tokenForm.FindStringSubmatch(s)
		return m[2] + `"` + strings.Repeat(" ", len(m[1])) + `""` + m[3] + `"`
	}))
}

// drawn is the text of a tree that plant reads.
func drawn(x api.Tree) string {
	if x.Rule == -1 {
		s := strings.ReplaceAll(x.Token.Lead, " ", "~") + x.Token.Kind
		if x.Token.Text != "" {
			s += ":" + x.Token.Text
		}
		return s
	}
	s := fmt.Sprintf("(%d", x.Rule)
	for _, kid := range x.Kids {
		s += " " + drawn(kid)
	}
	return s + ")"
}

// shown are bounds as a text.
func shown(b []api.Bound) string {
	s := ""
	for _, x := range b {
		s += x.Name + "=" + drawn(x.Part) + ";"
	}
	return s
}

// P8.3: which whole trees a query fits, and the first bounds.
func TestFits(t *testing.T) {
	g := grammar(t, mixed)
	two := "(0 (0 (1) (2 ~a:1)) (2 a:2))"
	nested := "(0 (1) (3 b (4 c (0 (0 (1) (2 a:1)) (3 b (5 c:1))) c:2)))"
	const no = "no"
	for _, x := range []struct{ tree, query, want string }{
		{"a:1", "_", ""}, {"a:1", "a", ""}, {"a:1", "b", no}, {"a:1", `a"1"`, ""}, {"a:1", `a"2"`, no}, {"~~a:1", `a"1"`, ""}, {"a", `a"1"`, no}, {"a", "a", ""}, {"a:1", "(1)", no}, {"(1)", "a", no},
		{"(1)", "(1)", ""}, {"(5 c)", "(1)", no}, {two, "(0 _ _)", ""}, {two, "(0 (0 (1) (2 a)) (2 a))", ""}, {two, "(0 (1) _)", no}, {two, `(0 _ (2 a"2"))`, ""}, {two, `(0 _ (2 a"1"))`, no}, {two, "(0 (0 _ (3 _ _)) _)", no},
		{two, "{(1) | (0 _ _)}", ""}, {two, "{(1) | (2 _)}", no}, {two, "!(1)", ""}, {two, "!(0 _ _)", no}, {two, "!!(0 _ _)", ""}, {two, "!_", no}, {two, "(0 !(1) _)", ""}, {two, "(0 !(0 _ !(3 _ _)) _)", no},
		{two, "^_", ""}, {two, "^(1)", ""}, {two, "^b", no}, {two, `^a"1"`, ""}, {two, "!^b", ""}, {two, "(0 ^a (2 ^a))", ""}, {two, "(0 ^(3 _ _) _)", no}, {two, "(0 _ ^(0 _ _))", no}, {two, "^^^(1)", ""}, {two, "^!a", ""}, {two, "!^!^(1)", no},
		// Names.
		{"~a:1", "x@a", "x=~a:1;"}, {two, "x@(0 z@_ y@_)", "x=(0 (0 (1) (2 ~a:1)) (2 a:2));y=(2 a:2);z=(0 (1) (2 ~a:1));"}, {"(4 ~c:1 (1) c:1)", "(4 x@_ _ x@_)", "x=~c:1;"}, {"(4 c:1 (1) ~c:1)", "(4 x@_ _ x@_)", "x=c:1;"}, {"(4 c:1 (1) c:2)", "(4 x@_ _ x@_)", no}, {"(4 c:1 (1) c)", "(4 x@_ _ x@_)", no},
		{"(4 ~c:1 (1) c:1)", "(4 y@_ _ x@_)", "x=c:1;y=~c:1;"},
		// Names of parts that differ deep within, or in the number of Kids that they have.
		{two, "(0 (0 _ x@_) x@_)", no}, {"(0 (0 (1) (3 b:1 (5 ~c:2))) (3 ~b:1 (5 c:2)))", "(0 (0 _ x@_) x@_)", "x=(3 b:1 (5 ~c:2));"}, {"(0 (0 (1) (3 b:1 (5 c:2))) (3 b:1 (5 c:3)))", "(0 (0 _ x@_) x@_)", no}, {"(0 (0 (1) (3 b (5 c))) (3 b (4 c (1) c)))", "(0 (0 _ x@_) x@_)", no}, {"(0 (0 (1) (3 b (5 c))) (2 a))", "(0 (0 _ x@_) x@_)", no},
		{nested, "(0 x@_ (3 b (4 _ (0 (0 x@_ _) _) _)))", "x=(1);"}, {nested, "(0 x@(1) (3 _ (4 _ x@_ _)))", no}, {nested, "(0 _ (3 y@_ (4 _ (0 _ (3 y@_ _)) _)))", "y=b;"},
		// The first Arg of a QueryEither is asked first, and what it binds before it fails is nothing.
		{two, "{(0 x@_ _) | (0 (0 x@_ _) _)}", "x=(0 (1) (2 ~a:1));"}, {two, "{(0 x@_ (3 _ _)) | (0 (0 x@_ _) _)}", "x=(1);"}, {two, "{(0 (0 x@_ y@_) y@_) | (0 (0 x@_ _) y@_)}", "x=(1);y=(2 a:2);"},
		{two, "(0 {(0 x@_ _) | x@_} z@(2 _))", "x=(1);z=(2 a:2);"}, {two, "(0 {(1) | (0 _ _)} z@(2 _))", "z=(2 a:2);"},
		// A QueryDeep has the first part in order, around before within.
		{two, "^x@a", "x=~a:1;"}, {two, "^(0 x@_ _)", "x=(0 (1) (2 ~a:1));"}, {two, "^(2 x@_)", "x=~a:1;"}, {two, "(0 _ ^x@a)", "x=a:2;"}, {two, "(0 ^x@a ^y@a)", "x=~a:1;y=a:2;"}, {two, "^(0 x@(1) _)", "x=(1);"}, {nested, "^(0 x@(0 _ _) y@_)", "x=(0 (1) (2 a:1));y=(3 b (5 c:1));"}, {nested, "^x@c", "x=c;"}, {nested, `^x@c"2"`, "x=c:2;"}, {nested, "^(4 x@_ _ y@_)", "x=c;y=c:2;"}, {nested, "^(4 x@_ _ x@_)", no},
		{"(0 (0 (1) (3 b (4 c:1 (1) c:2))) (3 b (4 ~c:3 (1) c:3)))", "^(4 x@_ _ x@_)", "x=~c:3;"}, {nested, "^^(3 _ (5 x@_))", "x=c:1;"}, {nested, "^(3 _ ^(3 x@_ y@_))", "x=b;y=(5 c:1);"}, {nested, "^{(5 x@_) | (4 _ _ x@_)}", "x=c:2;"},
	} {
		b, ok, err := query.Fits(g, ask(t, x.query), plant(t, x.tree))
		want := []any{x.tree, x.query, x.want, true, api.OK}
		if x.want == no {
			want = []any{x.tree, x.query, "", false, api.OK}
		}
		is(t, []any{x.tree, x.query, shown(b), ok, err}, want)
	}
}

// matches are what Find returns, as a text.
func matches(list []api.Match) string {
	s := ""
	for _, m := range list {
		s += fmt.Sprint(m.Path, shown(m.Bounds))
	}
	return s
}

// P8.3: all parts that a query fits.
func TestFind(t *testing.T) {
	g := grammar(t, sums)
	three := "(0 (0 (1 num:7) plus (1 num:0)) plus (1 ~num:0))"
	for query0, want := range map[string]string{
		"(0 x@_ plus (1 num\"0\"))": "[]x=(0 (1 num:7) plus (1 num:0));[0]x=(1 num:7);", "num": "[0 0 0][0 2 0][2 0]", "plus": "[0 1][1]", "^num\"0\"": "[][0][0 2][0 2 0][2][2 0]", "{num\"7\" | plus}": "[0 0 0][0 1][1]",
		"(1 _)": "[0 0][0 2][2]", "!_": "", "num\"8\"": "", "_": "[][0][0 0][0 0 0][0 1][0 2][0 2 0][1][2][2 0]", "!{num | (1 num)}": "[][0][0 1][1]", "(0 (1 x@_) _ (1 y@_))": "[0]x=num:7;y=num:0;", "(0 (0 _ _ x@_) _ x@_)": "[]x=(1 num:0);", "x@num\"0\"": "[0 2 0]x=num:0;[2 0]x=~num:0;",
		"^(0 (1 x@_) _ _)": "[]x=num:7;[0]x=num:7;", "!^num\"7\"": "[0 1][0 2][0 2 0][1][2][2 0]",
	} {
		x := plant(t, three)
		list, err := query.Find(g, ask(t, query0), x)
		is(t, []any{query0, matches(list), err}, []any{query0, want, api.OK})
		n, err := query.Count(g, ask(t, query0), x)
		is(t, []any{query0, n, err}, []any{query0, strings.Count(want, "["), api.OK})
	}
}

// P8.2, P8.3: the errors of the query come first, then those of the tree.
func TestFindErrors(t *testing.T) {
	g := grammar(t, sums)
	noNames := g
	noNames.Kinds = []string{"num", "Plus"}
	right, wrong := "(1 num)", api.Tree{Rule: -5}
	for i, x := range []struct {
		g    api.Grammar
		q    api.Query
		x    api.Tree
		want api.Errno
	}{
		{noNames, api.Query{}, wrong, api.ErrName}, {g, api.Query{}, wrong, api.ErrKind}, {g, ask(t, "d"), wrong, api.ErrNone}, {g, ask(t, "x@_"), wrong, api.ErrState}, {g, ask(t, "(0 ^x@num _ ^x@num)"), wrong, api.ErrRule},
		{g, ask(t, right), wrong, api.ErrKind}, {g, ask(t, right), node(2), api.ErrNone}, {g, ask(t, right), node(0), api.ErrRule}, {g, ask(t, right), node(1, leaf("plus", "", "")), api.ErrType}, {g, ask(t, right), leaf("Num", "", ""), api.ErrName}, {g, ask(t, right), leaf("minus", "", ""), api.ErrNone}, {g, ask(t, right), leaf("num", "", ""), api.OK},
	} {
		_, _, a := query.Fits(x.g, x.q, x.x)
		_, b := query.Find(x.g, x.q, x.x)
		_, c := query.Count(x.g, x.q, x.x)
		is(t, []any{i, a, b, c}, []any{i, x.want, x.want, x.want})
	}
}
