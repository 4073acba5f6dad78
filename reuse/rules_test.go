package reuse_test

import (
	"fmt"
	"math"
	"reflect"
	"slices"
	"strings"
	"sync"
	"testing"

	"hedgelayer/api"
	"hedgelayer/reuse"
)

// These tests are about the rules for all chapters, Z1 to Z7.

// given are the arguments of a call.
type given struct {
	g      api.Grammar
	x      api.Tree
	l, now []api.Token
	path   []int
	at     int
}

// call is a function, with what it returns for some arguments.
type call struct {
	name string
	run  func(a given) []any
}

func results(x ...any) []any { return x }

func calls() []call {
	return []call{
		{"Damage", func(a given) []any { return results(reuse.Damage(a.l, a.now)) }},
		{"Again", func(a given) []any { return results(reuse.Again(a.g, a.x, a.now)) }},
		{"Kept", func(a given) []any { return results(reuse.Kept(a.g, a.x, a.now)) }},
		{"Share", func(a given) []any { return results(reuse.Share(a.g, a.x, a.now)) }},
		{"Changed", func(a given) []any { return results(reuse.Changed(a.g, a.x, a.now)) }},
		{"Moved", func(a given) []any { return results(reuse.Moved(a.g, a.x, a.now, a.path)) }},
		{"Fragile", func(a given) []any { return results(reuse.Fragile(a.g, a.x, a.at)) }},
		{"Safe", func(a given) []any { return results(reuse.Safe(a.g, a.x)) }},
	}
}

// usual are arguments that are right.
func usual(t *testing.T) given {
	g := read(t, empties)
	l := split("a:1 b a:3 b")
	return given{g, parsed(t, g, l), l, split("a:1 b b a:3 b"), []int{1, 0}, 2}
}

// endless is a tree that has itself as a Kid.
func endless() api.Tree {
	kids := []api.Tree{leaf("num"), leaf("plus"), leaf("num")}
	kids[0] = node(0, kids...)
	kids[0].Kids = kids
	return kids[0]
}

// odd are arguments most of which are wrong in some way, or large.
func odd(t *testing.T) []given {
	huge := strings.Repeat("\xff", 200_000)
	sum := parsed(t, read(t, sums), split("num plus num"))
	grammars := []api.Grammar{
		read(t, sums), read(t, sums), read(t, ambiguous), {}, {Kinds: make([]string, 200_000)}, {Rules: make([]api.Rule, 200_000)},
		read(t, "tokens num\nstart s\ns = s / 1\ns = num\n"), {Start: huge, Rules: []api.Rule{{Left: "s"}}},
	}
	trees := []api.Tree{
		sum, leaf("num"), leaf(huge), {}, {Rule: math.MinInt}, {Rule: math.MaxInt}, endless(), node(1, leaf("num")), node(0, make([]api.Tree, 200_000)...), {Rule: -1, Kids: make([]api.Tree, 200_000)},
	}
	words := [][]api.Token{
		nil, split("num"), split("num plus num"), split("num num"), split("x"), tokens(200_000, "num"), make([]api.Token, 200_000), {{Kind: "num", Lead: huge, Text: huge}},
		tokens(api.MaxTokens, "num"), slices.Repeat(split("num plus"), api.MaxTokens/2), {{Kind: "num", Text: "\x00\xff"}},
	}
	paths := [][]int{nil, {0}, {-1}, {2, 0}, {math.MaxInt}, {math.MinInt}, make([]int, 200_000)}
	ints := []int{0, 1, 3, -1, 4, math.MinInt, math.MaxInt}
	var list []given
	for i, g := range grammars {
		for j, x := range trees {
			for k, now := range words {
				n := i + j + k
				list = append(list, given{g, x, words[n%len(words)], now, paths[n%len(paths)], ints[n%len(ints)]})
			}
		}
	}
	return list
}

// Z1, Z3: every call returns, and with an error, or with false, all other results are zero values.
func TestZeroWithErrors(t *testing.T) {
	for _, a := range odd(t) {
		for _, c := range calls() {
			got := c.run(a)
			err := got[len(got)-1].(api.Errno)
			for i, x := range got[:len(got)-1] {
				place := c.name == "Again" && i == 1 && err == api.ErrRule
				none := c.name == "Moved" && got[1] == false
				if (err != api.OK || none) && !place && !reflect.ValueOf(x).IsZero() {
					t.Errorf("%s: result %d is %.100v with error %v", c.name, i, x, err)
				}
			}
		}
	}
}

// hidden is a list with other memory behind its length.
func hidden[T any](list []T, by T) []T {
	return append(slices.Clone(list), by, by, by)[:len(list)]
}

// hideKids has other memory behind all Kids of a tree.
func hideKids(x api.Tree) api.Tree {
	var kids []api.Tree
	for _, kid := range x.Kids {
		kids = append(kids, hideKids(kid))
	}
	x.Kids = hidden(kids, api.Tree{Rule: 77})
	return x
}

// whole is a text of a tree with all memory behind its Kids.
func whole(x api.Tree) string {
	s := fmt.Sprint(x.Rule, x.Token, "(")
	for _, kid := range x.Kids {
		s += whole(kid)
	}
	return s + fmt.Sprint(x.Kids[len(x.Kids):len(x.Kids)+3], ")")
}

// Z2: arguments are not modified, nor is memory behind the lengths of their lists; nor is it looked at.
func TestArgumentsStay(t *testing.T) {
	plain, a := usual(t), usual(t)
	for i, r := range a.g.Rules {
		a.g.Rules[i].Right = hidden(r.Right, "hidden")
	}
	a.g.Kinds, a.g.Rules = hidden(a.g.Kinds, "hidden"), hidden(a.g.Rules, api.Rule{Left: "hidden"})
	other := api.Token{Kind: "hidden"}
	a.x, a.l, a.now, a.path = hideKids(a.x), hidden(a.l, other), hidden(a.now, other), hidden(a.path, 9)
	look := func() string {
		s := fmt.Sprintf("%q", []any{a.g.Kinds[:5], a.g.Rules[:9], a.l[:7], a.now[:8], a.path[:5], whole(a.x)})
		for _, r := range a.g.Rules {
			s += fmt.Sprint(r.Right[:len(r.Right)+3])
		}
		return s
	}
	before := look()
	for _, c := range calls() {
		is(t, []any{c.name, c.run(a)}, []any{c.name, c.run(plain)})
		is(t, []any{c.name, look()}, []any{c.name, before})
	}
}

// spoil writes over all of a list, behind its length, too.
func spoil[T any](list []T, by T) {
	list = list[:cap(list)]
	for i := range list {
		list[i] = by
	}
}

// spoilEach writes over each list, and asks each time whether all others stay.
func spoilEach(t *testing.T, lists [][]int) {
	t.Helper()
	for i, list := range lists {
		before := fmt.Sprint(lists[:i], lists[i+1:])
		spoil(list, 55)
		is(t, fmt.Sprint(lists[:i], lists[i+1:]), before)
	}
}

// spoilKids writes over all of a tree.
func spoilKids(x api.Tree) {
	for _, kid := range x.Kids {
		spoilKids(kid)
	}
	spoil(x.Kids, api.Tree{Rule: 55})
}

// Z2: changing one part of a result changes neither arguments nor other parts.
func TestResultsAreNew(t *testing.T) {
	a := usual(t)
	x, _, _ := reuse.Again(a.g, a.x, a.now)
	spoilKids(x)
	x, _, _ = reuse.Again(a.g, a.x, a.l)
	spoilKids(x)
	kept, _ := reuse.Kept(a.g, a.x, a.now)
	var lists [][]int
	for _, k := range kept {
		lists = append(lists, k.Old, k.New)
	}
	spoilEach(t, lists)
	for _, now := range [][]api.Token{a.now, a.l, nil} {
		changed, _ := reuse.Changed(a.g, a.x, now)
		spoilEach(t, changed)
		path, _, _ := reuse.Moved(a.g, a.x, now, a.path)
		spoil(path, 55)
	}
	fragile, _ := reuse.Fragile(a.g, a.x, a.at)
	spoilEach(t, fragile)
	safe, _ := reuse.Safe(a.g, a.x)
	spoilEach(t, safe)
	is(t, a, usual(t))
}

// Z1, Z7: the same arguments give the same results, also from several goroutines at once.
func TestSameResults(t *testing.T) {
	list := []given{usual(t), {rows(t), parsed(t, rows(t), tokens(400, "a")), tokens(400, "a"), tokens(420, "a"), []int{0, 1}, 200}}
	all := func() string {
		var b strings.Builder
		for _, a := range list {
			for _, c := range calls() {
				fmt.Fprintln(&b, c.name, c.run(a))
			}
		}
		return b.String()
	}
	want := all()
	got := make([]string, 8)
	var group sync.WaitGroup
	for i := range got {
		group.Go(func() { got[i] = all() })
	}
	group.Wait()
	for _, s := range got {
		is(t, s == want, true)
	}
}

// Z5: empty and nil lists are the same.
func TestEmptyLists(t *testing.T) {
	a := given{g: api.Grammar{Start: "s", Rules: []api.Rule{{Left: "s"}}}, x: api.Tree{}}
	b := given{
		api.Grammar{Kinds: []string{}, Start: "s", Rules: []api.Rule{{Left: "s", Right: []string{}}}},
		api.Tree{Kids: []api.Tree{}}, []api.Token{}, []api.Token{}, []int{}, 0,
	}
	for _, c := range calls() {
		got := c.run(a)
		is(t, []any{c.name, got}, []any{c.name, c.run(b)})
		is(t, []any{c.name, got[len(got)-1]}, []any{c.name, api.OK})
	}
	c := usual(t)
	c.x = emptyKids(c.x)
	is(t, results(reuse.Kept(c.g, c.x, c.now)), results(reuse.Kept(c.g, usual(t).x, c.now)))
	is(t, results(reuse.Safe(c.g, c.x)), results(reuse.Safe(c.g, usual(t).x)))
}

// emptyKids is a tree whose lists without elements are not nil.
func emptyKids(x api.Tree) api.Tree {
	kids := []api.Tree{}
	for _, kid := range x.Kids {
		kids = append(kids, emptyKids(kid))
	}
	x.Kids = kids
	return x
}
