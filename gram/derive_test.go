package gram_test

import (
	"fmt"
	"slices"
	"strings"
	"testing"

	"hedgelayer/api"
	"hedgelayer/gram"
)

// P1.5: words of the language, and others.
func TestDerives(t *testing.T) {
	tests := []struct {
		text, word string
		want       bool
	}{
		{"tokens num plus\nstart e\ne = e plus e\ne = num\n", "num", true},
		{"tokens num plus\nstart e\ne = e plus e\ne = num\n", "num plus num plus num", true},
		{"tokens num plus\nstart e\ne = e plus e\ne = num\n", "num plus num plus", false},
		{"tokens num plus\nstart e\ne = e plus e\ne = num\n", "", false},
		{"tokens num plus\nstart e\ne = e plus e\ne = num\n", "plus", false},
		{"tokens num plus\nstart e\ne = e plus e\ne = num\n", "num num", false},
		{"tokens a b\nstart s\ns = a s b\ns =\n", "a a b b", true},
		{"tokens a b\nstart s\ns = a s b\ns =\n", "a b b", false},
		{"tokens a b\nstart s\ns = a s b\ns =\n", "", true},
		{"tokens a b\nstart s\ns = s\ns = t s t\ns = b\nt =\nt = s\n", "b b b", true}, // loops are no matter
		{"tokens a b\nstart s\ns = s\n", "a", false},                                  // nor are barren symbols
		{"tokens a b\nstart s\ns = a / 7\ns = v a\nv = v\n", "a", true},
	}
	for _, x := range tests {
		ok, err := gram.Derives(read(t, x.text), split(x.word))
		is(t, []any{x.text, x.word, ok, err}, []any{x.text, x.word, x.want, api.OK})
	}
}

// P1.5: the errors of words.
func TestWordErrors(t *testing.T) {
	g := small()
	sums := func(n int) []string { return slices.Repeat([]string{"num", "plus"}, n) }
	tests := []struct {
		word []string
		want api.Errno
	}{
		{append(sums(29), "num"), api.OK},
		{sums(30), api.OK},
		{append(sums(30), "num"), api.ErrLarge},
		{make([]string, 61), api.ErrLarge},
		{make([]string, 200_000), api.ErrLarge},
		{make([]string, 60), api.ErrNone},
		{split("num e"), api.ErrNone},
		{split("num plus no"), api.ErrNone},
	}
	for _, x := range tests {
		ok, err := gram.Derives(g, x.word)
		is(t, []any{ok, err}, []any{x.want == api.OK && len(x.word) == 59, x.want})
		n, err := gram.Trees(read(t, "tokens num plus\nstart e\ne = e plus num\ne = num\n"), x.word)
		is(t, err, x.want)
		is(t, n == 1, x.want == api.OK && len(x.word) == 59)
	}
	_, err := gram.Derives(api.Grammar{}, make([]string, 61))
	is(t, err, api.ErrNone)
	_, err = gram.Trees(api.Grammar{Kinds: []string{""}}, make([]string, 61))
	is(t, err, api.ErrName)
	n, err := gram.Trees(read(t, "tokens a\nstart s\ns = s\ns = a\n"), split("a b"))
	is(t, []any{n, err}, []any{0, api.ErrNone}) // ahead of ErrState
}

// P1.5: numbers of trees.
func TestTrees(t *testing.T) {
	const sums = "tokens num plus\nstart e\ne = e plus e\ne = num\n"
	tests := []struct {
		text, word string
		want       int
	}{
		{sums, "", 0},
		{sums, "num", 1},
		{sums, "num plus num", 1},
		{sums, "num plus num plus num", 2},
		{sums, "num" + strings.Repeat(" plus num", 5), 42},
		{sums, "num plus", 0},
		{"tokens a\nstart s\ns = x y\nx = a\nx =\ny = a\ny =\n", "a", 2},
		{"tokens a\nstart s\ns = x y\nx = a\nx =\ny = a\ny =\n", "", 1},
		{"tokens a\nstart s\ns = x\ns = y\ns = a\nx = a\ny = x\n", "a", 3},
		{"tokens a b\nstart s\ns = n s b n\ns = a\nn =\n", "a b b", 1},
		{"tokens a\nstart s\ns = s a\ns = a s\ns =\n", "a a a", 8},
		{"tokens a\nstart s\ns = a\nz = z\nz = a\n", "a", 1},                 // z is not reached
		{"tokens a\nstart s\ns = a\ns = z\nz = z\n", "a", 1},                 // z is barren
		{"tokens a\nstart s\ns = a\ns = z v\nz = z\nz = a\nv = v\n", "a", 1}, // z is not reached in Trimmed
		{"tokens a\nstart s\ns = s\n", "a", 0},                               // Start is barren, and so is all that is reached
		{"tokens a\nstart s\ns = s t\nt = a\n", "a", 0},
		{"tokens a\nstart s\ns = s t\nt = a\nu = u\nu = a\n", "a", 0},
	}
	for _, x := range tests {
		n, err := gram.Trees(read(t, x.text), split(x.word))
		is(t, []any{x.text, x.word, n, err}, []any{x.text, x.word, x.want, api.OK})
	}
}

// P1.5: grammars in which a word can have trees without end.
func TestTreesState(t *testing.T) {
	for _, text := range []string{
		"tokens a\nstart s\ns = s\ns = a\n",
		"tokens a\nstart s\ns = s s\ns =\n",
		"tokens a\nstart s\ns = a\ns = a a t\nt = u\nu = t\nu = a\n", // also where the word has none of them
		"tokens a\nstart s\ns = s t\nt = t\nt = a\n",                 // Start is barren, t is not
	} {
		n, err := gram.Trees(read(t, text), split("a"))
		is(t, []any{text, n, err}, []any{text, 0, api.ErrState})
	}
}

// P1.5: at most 1,000,000,000 trees.
func TestTreesLimit(t *testing.T) {
	var b strings.Builder
	b.WriteString("tokens a\nstart s\ns =" + strings.Repeat(" x", 9) + "\n")
	for i := range 10 {
		fmt.Fprintf(&b, "x = y%d\ny%d = a\n", i, i)
	}
	g := read(t, b.String())
	n, err := gram.Trees(g, repeated("a", 9))
	is(t, []any{n, err}, []any{1_000_000_000, api.OK})
	g.Rules = append(g.Rules, api.Rule{Left: "s", Right: repeated("a", 9)})
	n, err = gram.Trees(g, repeated("a", 9))
	is(t, []any{n, err}, []any{0, api.ErrFull})
	g.Rules = append(g.Rules, api.Rule{Left: "s", Right: repeated("x", 20)})
	n, err = gram.Trees(g, repeated("a", 20))
	is(t, []any{n, err}, []any{0, api.ErrFull})
	n, err = gram.Trees(g, repeated("a", 10))
	is(t, []any{n, err}, []any{0, api.OK})
}

// P1.5: more trees than any int.
func TestTreesAreMany(t *testing.T) {
	n, err := gram.Trees(small(), append(slices.Repeat([]string{"num", "plus"}, 29), "num"))
	is(t, []any{n, err}, []any{0, api.ErrFull})
	n, err = gram.Trees(small(), slices.Repeat([]string{"num", "plus"}, 30))
	is(t, []any{n, err}, []any{0, api.OK})
}

// layers is a grammar of wide rules, each of which has the Lefts of later rules alone; what they become can all be empty.
func layers() api.Grammar {
	g := api.Grammar{Kinds: []string{"a", "b"}, Start: "x000", Rules: rules(97)}
	for i := range g.Rules[:96] {
		for j := range 20 {
			g.Rules[i].Right = append(g.Rules[i].Right, fmt.Sprintf("x%03d", min(96, i+1+j*(i%7))))
		}
	}
	g.Rules = append(g.Rules, api.Rule{Left: "x096", Right: []string{"a"}})
	return g
}

// P1.5: long words of wide rules with empty symbols.
func TestWideRules(t *testing.T) {
	n, err := gram.Trees(layers(), repeated("a", 60))
	is(t, []any{n, err}, []any{0, api.ErrFull})
	n, err = gram.Trees(layers(), append(repeated("a", 59), "b"))
	is(t, []any{n, err}, []any{0, api.OK})
	ok, err := gram.Derives(layers(), repeated("a", 60))
	is(t, []any{ok, err}, []any{true, api.OK})
	ok, err = gram.Derives(layers(), append(repeated("a", 59), "b"))
	is(t, []any{ok, err}, []any{false, api.OK})
}
