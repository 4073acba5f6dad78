package parse_test

import (
	"fmt"
	"slices"
	"strings"
	"testing"

	"hedgelayer/api"
	"hedgelayer/gram"
	"hedgelayer/parse"
	"hedgelayer/tree"
)

func is(t *testing.T, got, want any) {
	t.Helper()
	a, b := fmt.Sprint(got), fmt.Sprint(want)
	if a != b {
		t.Errorf("got %.500s, want %.500s", a, b)
	}
}

// read reads a grammar that must be right.
func read(t *testing.T, text string) api.Grammar {
	t.Helper()
	g, line, err := gram.Read(text)
	is(t, []any{text, line, err}, []any{text, 0, api.OK})
	return g
}

// split is a list that is told with blanks between.
func split(s string) []string { return strings.Fields(s) }

// tokens are tokens of the kinds of a word, with their indices as Texts and a blank ahead of each but the first one.
func tokens(word ...string) []api.Token {
	var list []api.Token
	for i, kind := range word {
		token := api.Token{Kind: kind, Text: fmt.Sprint(i)}
		if i > 0 {
			token.Lead = " "
		}
		list = append(list, token)
	}
	return list
}

// plain are tokens without bytes.
func plain(word ...string) []api.Token {
	var list []api.Token
	for _, kind := range word {
		list = append(list, api.Token{Kind: kind})
	}
	return list
}

func dump(t *testing.T, x api.Tree) string {
	t.Helper()
	s, err := tree.Dump(x)
	is(t, err, api.OK)
	return s
}

// sums is the grammar of the example of the chapter.
const sums = "tokens num plus\nstart e\ne = e plus t\ne = t\nt = num\n"

// P5.1: what is wrong with tokens, at the bounds.
func TestCheckTokens(t *testing.T) {
	long := func(n int) string { return strings.Repeat("x", n) }
	tests := []struct {
		l   []api.Token
		err api.Errno
	}{
		{nil, api.OK},
		{plain("a", "num_2", long(api.MaxName)), api.OK},
		{plain(""), api.ErrName},
		{plain("a", "A"), api.ErrName},
		{plain("2a"), api.ErrName},
		{plain("_a"), api.ErrName},
		{plain("a-b"), api.ErrName},
		{plain("a\xff"), api.ErrName},
		{plain(long(api.MaxName + 1)), api.ErrName},
		{plain(slices.Repeat([]string{"a"}, api.MaxTokens)...), api.OK},
		{plain(slices.Repeat([]string{"a"}, api.MaxTokens+1)...), api.ErrLarge},
		{plain(slices.Repeat([]string{""}, api.MaxTokens+1)...), api.ErrLarge},
		{[]api.Token{{Kind: "a", Lead: long(api.MaxText)}}, api.OK},
		{[]api.Token{{Kind: "a", Text: long(api.MaxText)}}, api.OK},
		{[]api.Token{{Kind: "a", Lead: long(api.MaxText), Text: "x"}}, api.ErrLarge},
		{[]api.Token{{Kind: "a", Lead: "x", Text: "\xff"}, {Kind: "b", Lead: long(10_000), Text: long(9_998)}}, api.OK},
		{[]api.Token{{Kind: "a", Lead: "x", Text: "\n"}, {Kind: "b", Lead: long(10_000), Text: long(9_999)}}, api.ErrLarge},
		{[]api.Token{{Kind: "a", Lead: "x", Text: "x"}, {Kind: "b", Lead: long(9_999), Text: long(10_000)}}, api.ErrLarge},
		{[]api.Token{{Kind: "a", Lead: "x"}, {Kind: "b", Lead: long(api.MaxText)}}, api.ErrLarge},
		// For each token its name comes first; what is ahead counts first.
		{[]api.Token{{Kind: "", Lead: long(api.MaxText + 1)}}, api.ErrName},
		{[]api.Token{{Kind: "a", Lead: long(api.MaxText + 1)}, {Kind: ""}}, api.ErrLarge},
		{[]api.Token{{Kind: "a", Lead: long(api.MaxText)}, {Kind: "", Text: "x"}}, api.ErrName},
	}
	for i, x := range tests {
		is(t, []any{i, parse.CheckTokens(x.l)}, []any{i, x.err})
	}
}

// contexts is a grammar with 2000 states: y stands in 37 places, and what comes behind it differs; there it has 20 + 20 + 11 states, and the place has 3.
func contexts() api.Grammar {
	g := api.Grammar{Kinds: []string{"a", "b", "c"}, Start: "s"}
	for i := range 37 {
		kind := fmt.Sprintf("k%02d", i)
		g.Kinds = append(g.Kinds, kind)
		g.Rules = append(g.Rules, api.Rule{Left: "s", Right: []string{kind, "y", kind}})
	}
	for i, n := range []int{20, 20, 11} {
		g.Rules = append(g.Rules, api.Rule{Left: "y", Right: slices.Repeat(g.Kinds[i:i+1], n)})
	}
	return g
}

// tooMany has one state more.
func tooMany() api.Grammar {
	g := contexts()
	g.Rules = append(g.Rules, api.Rule{Left: "s", Right: []string{"a"}})
	return g
}

// errors are those of all functions with a grammar and a word, or tokens, but Unique.
func errors(g api.Grammar, word []string, l []api.Token) []api.Errno {
	_, _, a := parse.Parse(g, l)
	_, _, b := parse.Accepts(g, word)
	_, _, c := parse.Expected(g, word)
	_, d := parse.Steps(g, word)
	_, e := parse.Derivation(g, word)
	_, f := parse.Stack(g, word)
	_, _, h := parse.Partial(g, l)
	return []api.Errno{a, b, c, d, e, f, h}
}

// P5.1: the errors of the table come first; then those of the word, or of the tokens; then those of parsing.
func TestOrderOfErrors(t *testing.T) {
	all := func(err api.Errno) []api.Errno { return slices.Repeat([]api.Errno{err}, 7) }
	g := read(t, sums)
	many := slices.Repeat([]string{""}, api.MaxTokens+1)
	named := g
	named.Kinds = []string{"num", "Plus"}
	ambiguous := read(t, "tokens num plus\nstart e\ne = e plus e\ne = num\n")
	is(t, errors(api.Grammar{}, many, plain(many...)), all(api.ErrNone))
	is(t, errors(named, many, plain(many...)), all(api.ErrName))
	is(t, errors(ambiguous, many, plain(many...)), all(api.ErrConflict))
	is(t, errors(tooMany(), many, plain(many...)), all(api.ErrFull))
	is(t, errors(g, many, plain(many...)), all(api.ErrLarge))
	is(t, errors(contexts(), split("a x"), plain("a", "x")), all(api.ErrNone))
	is(t, errors(g, split("plus plus minus"), plain("plus", "plus", "minus")), all(api.ErrNone))
	is(t, errors(g, split("e"), plain("e")), all(api.ErrNone))
	is(t, errors(g, split("num e"), plain("num", "e")), all(api.ErrNone))
	is(t, errors(g, []string{"x", ""}, plain("x", "")), []api.Errno{api.ErrName, api.ErrNone, api.ErrNone, api.ErrNone, api.ErrNone, api.ErrNone, api.ErrName})
	large := []api.Token{{Kind: "x"}, {Kind: "num", Text: strings.Repeat("x", api.MaxText+1)}}
	_, _, err := parse.Parse(g, large)
	is(t, err, api.ErrLarge)
	_, _, err = parse.Partial(g, large)
	is(t, err, api.ErrLarge)
	_, _, err = parse.Parse(tooMany(), large)
	is(t, err, api.ErrFull)
}

// P5.3, P5.2: a wrong token is an error of all functions but Accepts and Partial; that the end is wrong is none of Expected and Stack.
func TestWrongTokens(t *testing.T) {
	g := read(t, sums)
	const wrong, ok = api.ErrRule, api.OK
	tests := []struct {
		word string
		want []api.Errno
	}{
		{"", []api.Errno{wrong, ok, ok, wrong, wrong, ok, ok}},
		{"num", []api.Errno{ok, ok, ok, ok, ok, ok, ok}},
		{"num plus", []api.Errno{wrong, ok, ok, wrong, wrong, ok, ok}},
		{"num num", []api.Errno{wrong, ok, wrong, wrong, wrong, wrong, ok}},
		{"plus", []api.Errno{wrong, ok, wrong, wrong, wrong, wrong, ok}},
		{"num plus num", []api.Errno{ok, ok, ok, ok, ok, ok, ok}},
	}
	for _, x := range tests {
		word := split(x.word)
		is(t, []any{x.word, errors(g, word, plain(word...))}, []any{x.word, x.want})
	}
	l := slices.Repeat(split("num plus"), api.MaxTokens/2)
	is(t, errors(g, l, plain(l...)), tests[2].want)
}
