package table_test

import (
	"fmt"
	"math"
	"slices"
	"strings"
	"sync"
	"testing"

	"hedgelayer/api"
	"hedgelayer/table"
)

// These tests are about the rules for all chapters, Z1 to Z7.

// call is a function, with what it returns for some arguments.
type call struct {
	name string
	run  func(g api.Grammar, kind, state int, list []string) []any
}

func results(x ...any) []any { return x }

func calls() []call {
	return []call{
		{"Items", func(g api.Grammar, kind, state int, _ []string) []any { return results(table.Items(g, kind, state)) }},
		{"Make", func(g api.Grammar, kind, _ int, _ []string) []any { return results(table.Make(g, kind)) }},
		{"Size", func(g api.Grammar, kind, _ int, _ []string) []any { return results(table.Size(g, kind)) }},
		{"Conflicts", func(g api.Grammar, kind, _ int, _ []string) []any { return results(table.Conflicts(g, kind)) }},
		{"Merged", func(g api.Grammar, _, _ int, _ []string) []any { return results(table.Merged(g)) }},
		{"Reach", func(g api.Grammar, kind, _ int, list []string) []any { return results(table.Reach(g, kind, list)) }},
		{"Access", func(g api.Grammar, kind, state int, _ []string) []any { return results(table.Access(g, kind, state)) }},
		{"Resolved", func(g api.Grammar, kind, _ int, _ []string) []any { return results(table.Resolved(g, kind)) }},
		{"Defaults", func(g api.Grammar, kind, _ int, _ []string) []any { return results(table.Defaults(g, kind)) }},
	}
}

// odd are grammars most of which are wrong in some way, or have no table.
func odd(t *testing.T) []api.Grammar {
	negative := read(t, pairs)
	negative.Rules[0].Level = math.MinInt
	return []api.Grammar{
		{}, read(t, pairs), sums(t, 0, 0), sums(t, 1, 2), manyStates(), negative,
		withOneMore(operators(0), 0),
		read(t, fmt.Sprintf(merging, "")),
		read(t, "tokens m p\nstart s\ns = z e\nz = z\ne = e p e\ne = m\n"),
		read(t, "tokens\nstart s\ns = s\n"),
		{Kinds: []string{""}, Rules: []api.Rule{{}}},
		{Kinds: make([]string, 200_000)},
		{Rules: make([]api.Rule, 200_000)},
		{Start: "s", Rules: []api.Rule{{Left: "s", Right: make([]string, 200_000)}}},
		{Start: strings.Repeat("\xff", 200_000), Rules: []api.Rule{{Left: "s"}}},
	}
}

// Z1, Z3: every call returns, and with an error all other results are zero values.
func TestZeroWithErrors(t *testing.T) {
	lists := [][]string{nil, {"a"}, {"a", ""}, {"s", "s"}, make([]string, 200_000), repeated("a", api.MaxTokens)}
	kinds := []int{1, 2, 2, 1, 0, 3, math.MinInt, math.MaxInt}
	states := []int{0, 1, -1, 2, math.MinInt, math.MaxInt, 1_999, 3}
	for _, g := range odd(t) {
		for _, c := range calls() {
			for i := range 8 {
				got := c.run(g, kinds[i], states[i], lists[i%6])
				if got[1] != api.OK && !slices.Contains([]string{"0", "[]"}, fmt.Sprint(got[0])) {
					t.Errorf("%s: result %.100v with error %v", c.name, got[0], got[1])
				}
			}
		}
	}
}

// hidden is a list with other memory behind its length.
func hidden(list []string) []string {
	long := append(slices.Clone(list), "hidden", "hidden", "hidden")
	return long[:len(list)]
}

// Z2: arguments are not modified, nor is memory behind the lengths of their lists; nor is it looked at.
func TestArgumentsStay(t *testing.T) {
	for _, text := range []string{pairs, "tokens num plus\nstart e\ne = e plus e / 3\ne = num\n", fmt.Sprintf(merging, "")} {
		g, plain := read(t, text), read(t, text)
		g.Kinds = hidden(g.Kinds)
		for i := range g.Rules {
			g.Rules[i].Right = hidden(g.Rules[i].Right)
		}
		g.Rules = append(g.Rules, api.Rule{Left: "hidden"})[:len(g.Rules)]
		list := hidden([]string{g.Start})
		before := fmt.Sprintf("%q", []any{g, g.Kinds[:cap(g.Kinds)], g.Rules[:len(g.Rules)+1], list[:4]})
		for _, c := range calls() {
			is(t, []any{c.name, c.run(g, 2, 1, list)}, []any{c.name, c.run(plain, 2, 1, []string{g.Start})})
		}
		is(t, fmt.Sprintf("%q", []any{g, g.Kinds[:cap(g.Kinds)], g.Rules[:len(g.Rules)+1], list[:4]}), before)
		for _, r := range g.Rules {
			is(t, r.Right[:len(r.Right)+1][len(r.Right)], "hidden")
		}
	}
}

// spoil writes over all of a list, behind its length, too.
func spoil[T any](list []T, by T) {
	list = list[:cap(list)]
	for i := range list {
		list[i] = by
	}
}

// Z2: changing one part of a result changes neither arguments nor other parts.
func TestResultsAreNew(t *testing.T) {
	g := sums(t, 0, 0)
	c, _ := table.Conflicts(g, api.TableFull)
	again, _ := table.Conflicts(g, api.TableFull)
	is(t, len(c), 4)
	spoil(c[0].Word, "spoiled")
	spoil(c[1].Rules, 99)
	c[0].Word, c[1].Rules = again[0].Word, again[1].Rules
	is(t, c, again)
	g = read(t, "tokens a b\nstart s\ns = x t\ns = y t\nt = a\nt = b\nx =\ny =\n")
	c, _ = table.Conflicts(g, api.TableFull)
	spoil(c[0].Rules, 99)
	is(t, c[1].Rules, []int{4, 5})
	g = sums(t, 1, 2)
	r, _ := table.Resolved(g, api.TableFull)
	spoil(r[0].Word, "spoiled")
	spoil(r[0].Rules, 99)
	is(t, told(r[1:]), "5 t! [0] n p n; 6 p! [1] n t n; 6 t! [1] n t n")
	m, _ := table.Make(g, api.TableMerged)
	spoil(m[0].Moves, api.Move{Symbol: "spoiled"})
	spoil(m[5].Reduces, api.Reduce{Rule: 99})
	same, _ := table.Make(g, api.TableMerged)
	is(t, rows(m[1:5]), rows(same[1:5]))
	is(t, row(m[6]), row(same[6]))
	l, _ := table.Access(g, api.TableFull, 5)
	spoil(l, "spoiled")
	is(t, g, sums(t, 1, 2))
}

// Z1, Z7: the same arguments give the same results, also from several goroutines at once.
func TestSameResults(t *testing.T) {
	grammars := []api.Grammar{read(t, pairs), sums(t, 0, 0), sums(t, 1, 2), read(t, fmt.Sprintf(merging, "")), contexts()}
	all := func() string {
		var b strings.Builder
		for _, g := range grammars {
			for _, c := range calls() {
				for kind := range 3 {
					fmt.Fprintln(&b, c.name, c.run(g, kind, 3, g.Kinds[:1]))
				}
			}
		}
		return b.String()
	}
	want := all()
	got := make([]string, 8)
	var group sync.WaitGroup
	for i := range got {
		group.Go(func() { got[i] = all() })
	}
	group.Wait()
	for _, s := range got {
		is(t, s == want, true)
	}
}

// Z5: empty and nil lists are the same.
func TestEmptyLists(t *testing.T) {
	a := api.Grammar{Start: "s", Rules: []api.Rule{{Left: "s"}}}
	b := api.Grammar{Kinds: []string{}, Start: "s", Rules: []api.Rule{{Left: "s", Right: []string{}}}}
	for _, c := range calls() {
		is(t, []any{c.name, c.run(a, 1, 0, nil)}, []any{c.name, c.run(b, 1, 0, []string{})})
	}
}
