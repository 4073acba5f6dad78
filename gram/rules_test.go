package gram_test

import (
	"fmt"
	"math"
	"slices"
	"strings"
	"sync"
	"testing"

	"hedgelayer/api"
	"hedgelayer/gram"
)

// These tests are about the rules for all chapters, Z1 to Z10.

// call is what a function returns for some arguments, as a string.
type call struct {
	name string
	run  func(g api.Grammar, symbol string, list []string, most int) []any
}

func results(x ...any) []any { return x }

func calls() []call {
	return []call{
		{"Check", func(g api.Grammar, _ string, _ []string, _ int) []any { return results(gram.Check(g)) }},
		{"Text", func(g api.Grammar, _ string, _ []string, _ int) []any { return results(gram.Text(g)) }},
		{"Read", func(_ api.Grammar, s string, _ []string, _ int) []any { return results(gram.Read(s)) }},
		{"Lefts", func(g api.Grammar, _ string, _ []string, _ int) []any { return results(gram.Lefts(g)) }},
		{"Nullable", func(g api.Grammar, _ string, _ []string, _ int) []any { return results(gram.Nullable(g)) }},
		{"First", func(g api.Grammar, _ string, l []string, _ int) []any { return results(gram.First(g, l)) }},
		{"Follow", func(g api.Grammar, s string, _ []string, _ int) []any { return results(gram.Follow(g, s)) }},
		{"Unreached", func(g api.Grammar, _ string, _ []string, _ int) []any { return results(gram.Unreached(g)) }},
		{"Barren", func(g api.Grammar, _ string, _ []string, _ int) []any { return results(gram.Barren(g)) }},
		{"Trimmed", func(g api.Grammar, _ string, _ []string, _ int) []any { return results(gram.Trimmed(g)) }},
		{"Loops", func(g api.Grammar, _ string, _ []string, _ int) []any { return results(gram.Loops(g)) }},
		{"Shortest", func(g api.Grammar, s string, _ []string, _ int) []any { return results(gram.Shortest(g, s)) }},
		{"Words", func(g api.Grammar, _ string, _ []string, n int) []any { return results(gram.Words(g, n)) }},
		{"Derives", func(g api.Grammar, _ string, l []string, _ int) []any { return results(gram.Derives(g, l)) }},
		{"Trees", func(g api.Grammar, _ string, l []string, _ int) []any { return results(gram.Trees(g, l)) }},
	}
}

// odd are grammars most of which are wrong in some way.
func odd(t *testing.T) []api.Grammar {
	list := []api.Grammar{
		{}, small(), layers(), withText(api.MaxText), read(t, mixed),
		{Kinds: []string{""}, Rules: []api.Rule{{}}},
		{Kinds: make([]string, 200_000)},
		{Rules: make([]api.Rule, 200_000)},
		{Start: "s", Rules: []api.Rule{{Left: "s", Right: make([]string, 200_000)}}},
		{Start: "s", Rules: []api.Rule{{Left: "s"}}},
		{Start: "s", Rules: []api.Rule{{Left: "s", Right: []string{"s"}}}},
		{Start: "s", Rules: []api.Rule{{Left: "s", Right: []string{"s", "s"}}, {Left: "s"}}},
		changed(func(g *api.Grammar) { g.Rules[0].Level = math.MinInt }),
		changed(func(g *api.Grammar) { g.Rules[0].Level = math.MaxInt }),
		changed(func(g *api.Grammar) { g.Start = strings.Repeat("\xff", 200_000) }),
		changed(func(g *api.Grammar) { g.Kinds = []string{"plus", "num"} }),
	}
	return list
}

// Z1, Z3: every call returns, and with an error all other results are zero values.
func TestZeroWithErrors(t *testing.T) {
	strs := []string{"", "s", "e", "num", "no", "\x00\xff", "tokens\nstart s\ns =\n", strings.Repeat("\n", 200_000)}
	words := [][]string{nil, {"num"}, {"e"}, {""}, {"num", "plus", "num"}, make([]string, 200_000), repeated("num", 60)}
	mosts := []int{0, 8, -1, 9, math.MinInt, math.MaxInt}
	for _, g := range odd(t) {
		for _, c := range calls() {
			for i := range 8 {
				got := c.run(g, strs[i], words[i%len(words)], mosts[i%len(mosts)])
				checkZero(t, c.name, got)
			}
		}
	}
}

func checkZero(t *testing.T, name string, got []any) {
	t.Helper()
	last := got[len(got)-1]
	if last == api.OK {
		return
	}
	for i, x := range got[:len(got)-1] {
		if name == "Read" && i == 1 && last == api.ErrSyntax {
			continue
		}
		switch fmt.Sprint(x) {
		case "", "0", "false", "[]", fmt.Sprint(api.Grammar{}):
		default:
			t.Errorf("%s: result %d is %v with error %v", name, i, x, last)
		}
	}
}

// Z5: empty and nil lists are the same.
func TestEmptyLists(t *testing.T) {
	a := api.Grammar{Start: "s", Rules: []api.Rule{{Left: "s"}}}
	b := api.Grammar{Kinds: []string{}, Start: "s", Rules: []api.Rule{{Left: "s", Right: []string{}}}}
	for _, c := range calls() {
		is(t, []any{c.name, c.run(a, "s", nil, 3)}, []any{c.name, c.run(b, "s", []string{}, 3)})
	}
	twice := api.Grammar{Start: "s", Rules: []api.Rule{{Left: "s"}, {Left: "s", Right: []string{}}}}
	is(t, gram.Check(twice), api.ErrTwice)
}

// hidden is a list with other memory behind its length.
func hidden(list []string) []string {
	long := append(slices.Clone(list), "hidden", "hidden", "hidden")
	return long[:len(list)]
}

// Z2: arguments are not modified, nor is memory behind the lengths of their lists; nor is it looked at.
func TestArgumentsStay(t *testing.T) {
	for _, text := range []string{mixed, "tokens num plus\nstart e\ne = e plus e / 3\ne = num\n"} {
		g := read(t, text)
		plain := read(t, text)
		g.Kinds = hidden(g.Kinds)
		for i := range g.Rules {
			g.Rules[i].Right = hidden(g.Rules[i].Right)
		}
		g.Rules = append(g.Rules, api.Rule{Left: "hidden"})[:len(g.Rules)]
		list := hidden([]string{g.Kinds[0]})
		before := fmt.Sprintf("%q", []any{g, g.Kinds[:cap(g.Kinds)], g.Rules[:len(g.Rules)+1], list[:4]})
		for _, c := range calls() {
			is(t, []any{c.name, c.run(g, plain.Start, list, 3)}, []any{c.name, c.run(plain, plain.Start, []string{g.Kinds[0]}, 3)})
		}
		is(t, fmt.Sprintf("%q", []any{g, g.Kinds[:cap(g.Kinds)], g.Rules[:len(g.Rules)+1], list[:4]}), before)
		for _, r := range g.Rules {
			is(t, r.Right[:len(r.Right)+1][len(r.Right)], "hidden")
		}
	}
}

// spoil writes over all of a list, behind its length, too.
func spoil(list []string) {
	list = list[:cap(list)]
	for i := range list {
		list[i] = "spoiled"
	}
}

// Z2: changing results changes neither arguments nor other results.
func TestResultsAreNew(t *testing.T) {
	g := read(t, mixed)
	h, _ := gram.Trimmed(g)
	spoil(h.Kinds)
	spoil(h.Rules[0].Right)
	h.Rules[1].Left = "spoiled"
	is(t, g, read(t, mixed))
	is(t, fmt.Sprint(h.Rules[1:]), "[{spoiled [a] 0} {x [] 0} {y [b y] 0} {y [] 0}]")
	r := read(t, mixed)
	spoil(r.Kinds)
	spoil(r.Rules[0].Right)
	is(t, r.Rules[1:], g.Rules[1:])
	words, _ := gram.Words(g, 3)
	again, _ := gram.Words(g, 3)
	spoil(words[3])
	words[3] = again[3]
	is(t, words, again)
	for _, symbol := range []string{"b", "x"} {
		one, _ := gram.Shortest(g, symbol)
		spoil(one)
		list, _ := gram.Lefts(g)
		spoil(list)
	}
	is(t, g, read(t, mixed))
}

// Z1, Z7: the same arguments give the same results, also from several goroutines at once.
func TestSameResults(t *testing.T) {
	grammars := []api.Grammar{read(t, mixed), small(), withText(api.MaxText)}
	all := func() string {
		var b strings.Builder
		for _, g := range grammars {
			for _, c := range calls() {
				fmt.Fprintln(&b, c.name, c.run(g, g.Start, g.Kinds[:1], 4))
			}
		}
		return b.String()
	}
	want := all()
	var group sync.WaitGroup
	got := make([]string, 8)
	for i := range got {
		group.Add(1)
		go func() {
			defer group.Done()
			got[i] = all()
		}()
	}
	group.Wait()
	for _, s := range got {
		is(t, s == want, true)
	}
}
