package parse_test

import (
	"fmt"
	"math"
	"reflect"
	"slices"
	"strings"
	"sync"
	"testing"

	"hedgelayer/api"
	"hedgelayer/parse"
)

// These tests are about the rules for all chapters, Z1 to Z7.

// given are the arguments of a call.
type given struct {
	g    api.Grammar
	word []string
	l    []api.Token
}

// call is a function, with what it returns for some arguments.
type call struct {
	name string
	run  func(a given) []any
}

func results(x ...any) []any { return x }

func calls() []call {
	return []call{
		{"CheckTokens", func(a given) []any { return results(parse.CheckTokens(a.l)) }},
		{"Parse", func(a given) []any { return results(parse.Parse(a.g, a.l)) }},
		{"Accepts", func(a given) []any { return results(parse.Accepts(a.g, a.word)) }},
		{"Expected", func(a given) []any { return results(parse.Expected(a.g, a.word)) }},
		{"Steps", func(a given) []any { return results(parse.Steps(a.g, a.word)) }},
		{"Derivation", func(a given) []any { return results(parse.Derivation(a.g, a.word)) }},
		{"Stack", func(a given) []any { return results(parse.Stack(a.g, a.word)) }},
		{"Partial", func(a given) []any { return results(parse.Partial(a.g, a.l)) }},
		{"Unique", func(a given) []any { return results(parse.Unique(a.g)) }},
	}
}

// usual are arguments that are right.
func usual(t *testing.T) given {
	word := split("num plus num plus num")
	return given{read(t, sums), word, tokens(word...)}
}

// odd are arguments most of which are wrong in some way, or large.
func odd(t *testing.T) []given {
	huge := strings.Repeat("\xff", 200_000)
	negative := read(t, sums)
	negative.Rules[0].Level = math.MinInt
	grammars := []api.Grammar{
		read(t, sums), {}, tooMany(), negative, read(t, "tokens num plus\nstart e\ne = e plus e\ne = num\n"),
		read(t, "tokens a\nstart s\ns = s / 1\ns = a\n"), nest(t, "a"), nest(t, "x x"), read(t, "tokens a\nstart s\ns = s a\n"),
		{Kinds: make([]string, 200_000)}, {Rules: make([]api.Rule, 200_000)}, {Start: huge, Rules: []api.Rule{{Left: "s"}}},
		{Start: "s", Rules: []api.Rule{{Left: "s", Right: make([]string, 200_000)}}},
	}
	words := [][]string{
		nil, {"num"}, {"num", "plus", "num"}, {"a"}, {"a", "a"}, {""}, {"e"}, {huge}, {"num", "num", "x"}, make([]string, 200_000), times(200_000, "num"),
		times(api.MaxTokens, "a"), slices.Repeat(split("num plus"), api.MaxTokens/2),
	}
	var list []given
	for _, g := range grammars {
		for _, word := range words {
			list = append(list, given{g, word, plain(word...)})
		}
		list = append(list, given{g, nil, []api.Token{{Kind: "num", Lead: huge, Text: huge}}}, given{g, nil, []api.Token{{Kind: "num", Text: "\x00\xff"}}})
	}
	return list
}

// Z1, Z3: every call returns, and with an error all other results are zero values.
func TestZeroWithErrors(t *testing.T) {
	for _, a := range odd(t) {
		for _, c := range calls() {
			got := c.run(a)
			err := got[len(got)-1].(api.Errno)
			for i, x := range got[:len(got)-1] {
				place := c.name == "Parse" && i == 1 && err == api.ErrRule
				if err != api.OK && !place && !reflect.ValueOf(x).IsZero() {
					t.Errorf("%s: result %d is %.100v with error %v", c.name, i, x, err)
				}
			}
		}
	}
}

// hidden is a list with other memory behind its length.
func hidden[T any](list []T, by T) []T {
	return append(slices.Clone(list), by, by, by)[:len(list)]
}

// Z2: arguments are not modified, nor is memory behind the lengths of their lists; nor is it looked at.
func TestArgumentsStay(t *testing.T) {
	plain, a := usual(t), usual(t)
	for i, r := range a.g.Rules {
		a.g.Rules[i].Right = hidden(r.Right, "hidden")
	}
	a.g.Kinds, a.g.Rules = hidden(a.g.Kinds, "hidden"), hidden(a.g.Rules, api.Rule{Left: "hidden"})
	a.word, a.l = hidden(a.word, "hidden"), hidden(a.l, api.Token{Kind: "hidden"})
	look := func() string {
		s := fmt.Sprintf("%q", []any{a, a.g.Kinds[:5], a.g.Rules[:6], a.word[:8], a.l[:8]})
		for _, r := range a.g.Rules {
			s += fmt.Sprint(r.Right[:len(r.Right)+3])
		}
		return s
	}
	before := look()
	for _, c := range calls() {
		is(t, []any{c.name, c.run(a)}, []any{c.name, c.run(plain)})
		is(t, []any{c.name, look()}, []any{c.name, before})
	}
}

// spoil writes over all of a list, behind its length, too.
func spoil[T any](list []T, by T) {
	list = list[:cap(list)]
	for i := range list {
		list[i] = by
	}
}

// spoilKids writes over all of a tree but its own fields, and asks each time whether the rest stays. Behind the lists there must be no other trees.
func spoilKids(t *testing.T, x api.Tree) {
	for _, behind := range x.Kids[len(x.Kids):cap(x.Kids)] {
		is(t, behind, api.Tree{})
	}
	for i, kid := range x.Kids {
		before := fmt.Sprint(x.Kids[:i], x.Kids[i+1:])
		spoilKids(t, kid)
		is(t, fmt.Sprint(x.Kids[:i], x.Kids[i+1:]), before)
	}
	spoil(x.Kids, api.Tree{Rule: 55})
}

// Z2: changing one part of a result changes neither arguments nor other parts.
func TestResultsAreNew(t *testing.T) {
	a := usual(t)
	x, _, _ := parse.Parse(a.g, a.l)
	spoilKids(t, x)
	for i := range a.l {
		list, _, _ := parse.Partial(a.g, a.l[:i])
		spoilKids(t, api.Tree{Kids: list})
	}
	words, _ := parse.Derivation(a.g, a.word)
	for i := range words {
		before := fmt.Sprint(words[:i], words[i+1:])
		spoil(words[i], "spoiled")
		is(t, fmt.Sprint(words[:i], words[i+1:]), before)
	}
	kinds, _, _ := parse.Expected(a.g, a.word)
	spoil(kinds, "spoiled")
	symbols, _ := parse.Stack(a.g, a.word)
	spoil(symbols, "spoiled")
	is(t, a, usual(t))
}

// Z1, Z7: the same arguments give the same results, also from several goroutines at once.
func TestSameResults(t *testing.T) {
	list := []given{usual(t), {nest(t, "a"), split("a"), plain("a")}, {contexts(), split("k00 a"), plain("k00", "a")}}
	all := func() string {
		var b strings.Builder
		for _, a := range list {
			for _, c := range calls() {
				fmt.Fprintln(&b, c.name, c.run(a))
			}
		}
		return b.String()
	}
	want := all()
	got := make([]string, 8)
	var group sync.WaitGroup
	for i := range got {
		group.Go(func() { got[i] = all() })
	}
	group.Wait()
	for _, s := range got {
		is(t, s == want, true)
	}
}

// Z5: empty and nil lists are the same.
func TestEmptyLists(t *testing.T) {
	a := given{g: api.Grammar{Start: "s", Rules: []api.Rule{{Left: "s"}}}}
	b := given{api.Grammar{Kinds: []string{}, Start: "s", Rules: []api.Rule{{Left: "s", Right: []string{}}}}, []string{}, []api.Token{}}
	for _, c := range calls() {
		is(t, []any{c.name, c.run(a)}, []any{c.name, c.run(b)})
	}
}
