package gram_test

import (
	"fmt"
	"math"
	"slices"
	"strings"
	"testing"

	"hedgelayer/api"
	"hedgelayer/gram"
)

func is(t *testing.T, got, want any) {
	t.Helper()
	if fmt.Sprint(got) != fmt.Sprint(want) {
		t.Errorf("got %v, want %v", got, want)
	}
}

// read reads a grammar that must be right.
func read(t *testing.T, text string) api.Grammar {
	t.Helper()
	g, line, err := gram.Read(text)
	is(t, []any{text, line, err}, []any{text, 0, api.OK})
	return g
}

// split is a word whose kinds are told with blanks between.
func split(s string) []string { return strings.Fields(s) }

func small() api.Grammar {
	return api.Grammar{
		Kinds: []string{"num", "plus"},
		Start: "e",
		Rules: []api.Rule{{Left: "e", Right: []string{"e", "plus", "e"}}, {Left: "e", Right: []string{"num"}}},
	}
}

// changed is the small grammar after a change.
func changed(change func(g *api.Grammar)) api.Grammar {
	g := small()
	change(&g)
	return g
}

// kinds are n kinds, rising.
func kinds(n int) []string {
	var list []string
	for i := range n {
		list = append(list, fmt.Sprintf("k%02d", i))
	}
	return list
}

// rules are n rules, each with a Left of its own.
func rules(n int) []api.Rule {
	var list []api.Rule
	for i := range n {
		list = append(list, api.Rule{Left: fmt.Sprintf("x%03d", i)})
	}
	return list
}

type checked struct {
	name string
	g    api.Grammar
	want api.Errno
}

func runChecks(t *testing.T, tests []checked) {
	t.Helper()
	for _, x := range tests {
		is(t, []any{x.name, gram.Check(x.g)}, []any{x.name, x.want})
	}
}

// P1.1: what is no grammar, and what is just one.
func TestCheckKinds(t *testing.T) {
	runChecks(t, []checked{
		{"small", small(), api.OK},
		{"no kinds", api.Grammar{Start: "e", Rules: []api.Rule{{Left: "e"}}}, api.OK},
		{"60 kinds", changed(func(g *api.Grammar) { g.Kinds = append(kinds(58), "num", "plus") }), api.OK},
		{"61 kinds", changed(func(g *api.Grammar) { g.Kinds = append(kinds(59), "num", "plus") }), api.ErrLarge},
		{"61 wrong kinds", changed(func(g *api.Grammar) { g.Kinds = make([]string, 61) }), api.ErrLarge},
		{"empty kind", changed(func(g *api.Grammar) { g.Kinds = []string{"", "num", "plus"} }), api.ErrName},
		{"kind with a digit first", changed(func(g *api.Grammar) { g.Kinds = []string{"0num", "num", "plus"} }), api.ErrName},
		{"kind with a capital", changed(func(g *api.Grammar) { g.Kinds = []string{"Num", "num", "plus"} }), api.ErrName},
		{"kind with -", changed(func(g *api.Grammar) { g.Kinds = []string{"num", "plus", "x-y"} }), api.ErrName},
		{"kind of 40 bytes", changed(func(g *api.Grammar) { g.Kinds = append([]string{strings.Repeat("a", 40)}, g.Kinds...) }), api.OK},
		{"kind of 41 bytes", changed(func(g *api.Grammar) { g.Kinds = append([]string{strings.Repeat("a", 41)}, g.Kinds...) }), api.ErrName},
		{"the same kind twice", changed(func(g *api.Grammar) { g.Kinds = []string{"num", "num", "plus"} }), api.ErrOrder},
		{"falling kinds", changed(func(g *api.Grammar) { g.Kinds = []string{"plus", "num"} }), api.ErrOrder},
		{"digits come before _ and letters", changed(func(g *api.Grammar) { g.Kinds = []string{"num", "p0", "p_", "pa", "plus"} }), api.OK},
		{"order, then name", changed(func(g *api.Grammar) { g.Kinds = []string{"plus", "num", "Z"} }), api.ErrOrder},
		{"name, then order", changed(func(g *api.Grammar) { g.Kinds = []string{"Z", "plus", "num"} }), api.ErrName},
		{"name and order at one kind", changed(func(g *api.Grammar) { g.Kinds = []string{"num", "plus", "Z"} }), api.ErrName},
	})
}

func TestCheckRules(t *testing.T) {
	first := func(r api.Rule) api.Grammar {
		return changed(func(g *api.Grammar) { g.Rules = append([]api.Rule{r}, g.Rules...) })
	}
	nums := func(n int) []string { return slices.Repeat([]string{"num"}, n) }
	runChecks(t, []checked{
		{"nothing", api.Grammar{}, api.ErrNone},
		{"no rules", changed(func(g *api.Grammar) { g.Rules = nil }), api.ErrNone},
		{"no rules, wrong kinds", changed(func(g *api.Grammar) { g.Rules, g.Kinds = nil, []string{""} }), api.ErrName},
		{"100 rules", changed(func(g *api.Grammar) { g.Rules = append(rules(98), g.Rules...) }), api.OK},
		{"101 rules", changed(func(g *api.Grammar) { g.Rules = append(rules(99), g.Rules...) }), api.ErrLarge},
		{"101 wrong rules", changed(func(g *api.Grammar) { g.Rules = make([]api.Rule, 101) }), api.ErrLarge},
		{"Left without a name", first(api.Rule{}), api.ErrName},
		{"Left with _ first", first(api.Rule{Left: "_e"}), api.ErrName},
		{"Left of 40 bytes", first(api.Rule{Left: strings.Repeat("e", 40)}), api.OK},
		{"Left of 41 bytes", first(api.Rule{Left: strings.Repeat("e", 41)}), api.ErrName},
		{"Left is a kind", first(api.Rule{Left: "num"}), api.ErrConflict},
		{"Right of 20", first(api.Rule{Left: "e", Right: nums(20)}), api.OK},
		{"Right of 21", first(api.Rule{Left: "e", Right: nums(21)}), api.ErrLarge},
		{"Right of 200000", first(api.Rule{Left: "e", Right: nums(200_000)}), api.ErrLarge},
		{"level 99", first(api.Rule{Left: "e", Level: 99}), api.OK},
		{"level 100", first(api.Rule{Left: "e", Level: 100}), api.ErrArg},
		{"level -1", first(api.Rule{Left: "e", Level: -1}), api.ErrArg},
		{"greatest level", first(api.Rule{Left: "e", Level: math.MaxInt}), api.ErrArg},
		{"least level", first(api.Rule{Left: "e", Level: math.MinInt}), api.ErrArg},
		{"rule twice", first(api.Rule{Left: "e", Right: []string{"num"}}), api.ErrTwice},
		{"rule twice with another level", first(api.Rule{Left: "e", Right: []string{"num"}, Level: 5}), api.ErrTwice},
		{"Right again with another Left", first(api.Rule{Left: "f", Right: []string{"num"}}), api.OK},
		{"Left again with a longer Right", first(api.Rule{Left: "e", Right: []string{"num", "num"}}), api.OK},
		{"Right is no symbol", first(api.Rule{Left: "e", Right: []string{"num", "x"}}), api.ErrNone},
		{"Right is no name", first(api.Rule{Left: "e", Right: []string{""}}), api.ErrNone},
		{"Start is nothing", changed(func(g *api.Grammar) { g.Start = "" }), api.ErrNone},
		{"Start is unknown", changed(func(g *api.Grammar) { g.Start = "f" }), api.ErrNone},
		{"Start is a kind", changed(func(g *api.Grammar) { g.Start = "num" }), api.ErrNone},
	})
}

// Z4: the first error of the first rule comes first; symbols are looked at when all rules have been.
func TestCheckOrder(t *testing.T) {
	two := func(a, b api.Rule) api.Grammar {
		return api.Grammar{Kinds: []string{"a"}, Start: "no", Rules: []api.Rule{a, b}}
	}
	long := slices.Repeat([]string{"no"}, 21)
	runChecks(t, []checked{
		{"name, conflict", two(api.Rule{Left: "E"}, api.Rule{Left: "a"}), api.ErrName},
		{"conflict, name", two(api.Rule{Left: "a"}, api.Rule{Left: "E"}), api.ErrConflict},
		{"conflict, then long", two(api.Rule{Left: "a", Right: long}, api.Rule{}), api.ErrConflict},
		{"long, then level", two(api.Rule{Left: "e", Right: long, Level: -1}, api.Rule{}), api.ErrLarge},
		{"level, then twice", two(api.Rule{Left: "e"}, api.Rule{Left: "e", Level: -1}), api.ErrArg},
		{"twice ahead of unknown symbols", two(api.Rule{Left: "e", Right: []string{"no"}}, api.Rule{Left: "e", Right: []string{"no"}}), api.ErrTwice},
		{"words that only look twice", two(api.Rule{Left: "e", Right: []string{"no no"}}, api.Rule{Left: "e", Right: []string{"no", "no"}}), api.ErrNone},
		{"all rules ahead of unknown symbols", two(api.Rule{Left: "e", Right: []string{"no"}}, api.Rule{Left: "e", Level: 100}), api.ErrArg},
		{"Start at last", two(api.Rule{Left: "e"}, api.Rule{Left: "f"}), api.ErrNone},
	})
}

// P1.1: all symbols that are the Left of a rule, rising.
func TestLefts(t *testing.T) {
	l, err := gram.Lefts(read(t, "tokens a\nstart s\ns = z b\nz =\nb = a\nb =\ns =\n"))
	is(t, []any{l, err}, []any{[]string{"b", "s", "z"}, api.OK})
	l, err = gram.Lefts(api.Grammar{})
	is(t, []any{l, err}, []any{[]string{}, api.ErrNone})
}
