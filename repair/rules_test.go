package repair_test

import (
	"fmt"
	"math"
	"reflect"
	"slices"
	"strings"
	"sync"
	"testing"

	"hedgelayer/api"
	"hedgelayer/repair"
)

// These tests are about the rules for all chapters, Z1 to Z7.

// given are the arguments of a call.
type given struct {
	g           api.Grammar
	word, other []string
	l           []api.Fix
	p           api.Prices
	most        int
	text        string
}

// call is a function, with what it returns for some arguments.
type call struct {
	name string
	run  func(a given) []any
}

func results(x ...any) []any { return x }

func calls() []call {
	return []call{
		{"CheckFixes", func(a given) []any { return results(repair.CheckFixes(a.g, a.word, a.l)) }},
		{"Apply", func(a given) []any { return results(repair.Apply(a.g, a.word, a.l)) }},
		{"Cost", func(a given) []any { return results(repair.Cost(a.l, a.p)) }},
		{"Distance", func(a given) []any { return results(repair.Distance(a.g, a.word, a.p)) }},
		{"Repair", func(a given) []any { return results(repair.Repair(a.g, a.word, a.p)) }},
		{"Repaired", func(a given) []any { return results(repair.Repaired(a.g, a.word, a.p)) }},
		{"Within", func(a given) []any { return results(repair.Within(a.g, a.word, a.p, a.most)) }},
		{"Kept", func(a given) []any { return results(repair.Kept(a.g, a.word, a.p)) }},
		{"Finish", func(a given) []any { return results(repair.Finish(a.g, a.word)) }},
		{"Holes", func(a given) []any { return results(repair.Holes(a.g, a.word)) }},
		{"Between", func(a given) []any { return results(repair.Between(a.word, a.other, a.p)) }},
		{"Text", func(a given) []any { return results(repair.Text(a.l)) }},
		{"Read", func(a given) []any { return results(repair.Read(a.text)) }},
	}
}

// usual are arguments that are right.
func usual(t *testing.T) given {
	return given{sums(t), split("num plus plus num"), split("plus num"), fixes("0 + num, 0 + plus, 1 -, 2 = num"), ones, 1, "0 + num\n1 -\n"}
}

// odd are arguments most of which are wrong in some way, or large.
func odd(t *testing.T) []given {
	huge := strings.Repeat("\xff", 200_000)
	grammars := []api.Grammar{
		sums(t), read(t, "tokens num\nstart s\ns =\n"), read(t, "tokens num\nstart s\ns = s\n"), {}, {Kinds: make([]string, 200_000)}, {Rules: make([]api.Rule, 200_000)},
		{Start: huge, Rules: []api.Rule{{Left: "s"}}},
	}
	words := [][]string{nil, split("num"), split("num num"), split("num plus"), split("x"), repeated("num", 40), repeated("num", 41), make([]string, 200_000), {huge}}
	lists := [][]api.Fix{
		nil, fixes("0 + num"), fixes("0 -"), fixes("0 -, 0 = plus"), fixes("9 -"), inserts(80, "num"), inserts(81, "num"), make([]api.Fix, 200_000),
		{{At: math.MaxInt, What: math.MaxInt, Kind: huge}}, {{At: math.MinInt, What: api.FixDelete}}, {{What: api.FixInsert, Kind: huge}},
	}
	texts := []string{"", "0 -\n", "0 -", "0 + \xff\n", "\x00", huge, "41 -\n", strings.Repeat("\n", 20_000)}
	prices := append(wrongPrices(), ones, api.Prices{Insert: 100, Delete: 100, Replace: 100})
	ints := []int{0, 1, -1, math.MinInt, math.MaxInt}
	var list []given
	for i, g := range grammars {
		for j, word := range words {
			for k, l := range lists {
				n := i + j + k
				p := prices[(i+2*j+3*k)%len(prices)]
				list = append(list, given{g, word, words[n%len(words)], l, p, ints[n%len(ints)], texts[n%len(texts)]})
			}
		}
	}
	return list
}

// Z1, Z3: every call returns, and with an error all other results are zero values.
func TestZeroWithErrors(t *testing.T) {
	met := map[string]bool{}
	for _, a := range odd(t) {
		for _, c := range calls() {
			got := c.run(a)
			err := got[len(got)-1].(api.Errno)
			met[fmt.Sprint(c.name, err == api.OK)] = true
			for i, x := range got[:len(got)-1] {
				place := c.name == "Read" && i == 1 && err == api.ErrSyntax
				if err != api.OK && !place && !reflect.ValueOf(x).IsZero() {
					t.Errorf("%s: result %d is %.100v with error %v", c.name, i, x, err)
				}
			}
		}
	}
	is(t, len(met), 2*len(calls()))
}

// hidden is a list with other memory behind its length.
func hidden[T any](list []T, by T) []T {
	return append(slices.Clone(list), by, by, by)[:len(list)]
}

// Z2: arguments are not modified, nor is memory behind the lengths of their lists; nor is it looked at.
func TestArgumentsStay(t *testing.T) {
	plain, a := usual(t), usual(t)
	for i, r := range a.g.Rules {
		a.g.Rules[i].Right = hidden(r.Right, "hidden")
	}
	a.g.Kinds, a.g.Rules = hidden(a.g.Kinds, "hidden"), hidden(a.g.Rules, api.Rule{Left: "hidden"})
	a.word, a.other, a.l = hidden(a.word, "hidden"), hidden(a.other, "hidden"), hidden(a.l, api.Fix{At: 77})
	look := func() string {
		s := fmt.Sprint(a.g.Kinds[:5], a.g.Rules[:6], a.word[:7], a.other[:5], a.l[:7])
		for _, r := range a.g.Rules {
			s += fmt.Sprint(r.Right[:len(r.Right)+3])
		}
		return s
	}
	before := look()
	for _, c := range calls() {
		is(t, []any{c.name, c.run(a)}, []any{c.name, c.run(plain)})
		is(t, []any{c.name, look()}, []any{c.name, before})
	}
}

// spoil writes over all of a list, behind its length, too.
func spoil[T any](list []T, by T) {
	list = list[:cap(list)]
	for i := range list {
		list[i] = by
	}
}

// Z2: changing one part of a result changes neither arguments nor other parts.
func TestResultsAreNew(t *testing.T) {
	a := usual(t)
	for _, l := range [][]api.Fix{a.l, nil} {
		word, _ := repair.Apply(a.g, a.word, l)
		spoil(word, "other")
	}
	l, _, _ := repair.Repair(a.g, a.word, a.p)
	spoil(l, api.Fix{At: 77})
	words, _ := repair.Repaired(a.g, a.word, a.p)
	is(t, len(words) > 1, true)
	for i := range words {
		before := fmt.Sprint(words[:i], words[i+1:])
		spoil(words[i], "other")
		is(t, fmt.Sprint(words[:i], words[i+1:]), before)
	}
	right := split("num plus num")
	words, _ = repair.Repaired(a.g, right, a.p)
	spoil(words[0], "other")
	rest, _ := repair.Finish(a.g, split("num plus"))
	spoil(rest, "other")
	filled, _, _ := repair.Holes(a.g, right)
	spoil(filled, "other")
	is(t, right, split("num plus num"))
	is(t, a, usual(t))
}

// Z1, Z7: the same arguments give the same results, also from several goroutines at once.
func TestSameResults(t *testing.T) {
	a, b := usual(t), usual(t)
	b.g, b.word = read(t, "tokens num plus\nstart s\ns = s s\ns = num\ns = plus s plus\n"), split("plus num plus plus num num plus")
	all := func() string {
		var s strings.Builder
		for _, c := range calls() {
			fmt.Fprintln(&s, c.name, c.run(a), c.run(b))
		}
		return s.String()
	}
	want := all()
	got := make([]string, 8)
	var group sync.WaitGroup
	for i := range got {
		group.Go(func() { got[i] = all() })
	}
	group.Wait()
	for _, s := range got {
		is(t, s, want)
	}
}

// Z5: empty and nil lists are the same.
func TestEmptyLists(t *testing.T) {
	a := given{g: api.Grammar{Start: "s", Rules: []api.Rule{{Left: "s"}}}, p: ones}
	b := given{
		api.Grammar{Kinds: []string{}, Start: "s", Rules: []api.Rule{{Left: "s", Right: []string{}}}},
		[]string{}, []string{}, []api.Fix{}, ones, 0, "",
	}
	for _, c := range calls() {
		got := c.run(a)
		is(t, []any{c.name, got}, []any{c.name, c.run(b)})
		is(t, []any{c.name, got[len(got)-1]}, []any{c.name, api.OK})
	}
}
