package tree_test

import (
	"fmt"
	"math"
	"reflect"
	"slices"
	"strings"
	"sync"
	"testing"

	"hedgelayer/api"
	"hedgelayer/tree"
)

// These tests are about the rules for all chapters, Z1 to Z7.

// given are the arguments of a call.
type given struct {
	g    api.Grammar
	x, y api.Tree
	path []int
	n, m int
	s    string
}

// call is a function, with what it returns for some arguments.
type call struct {
	name string
	run  func(a given) []any
}

func results(x ...any) []any { return x }

func calls() []call {
	return []call{
		{"CheckTree", func(a given) []any { return results(tree.CheckTree(a.x)) }},
		{"Check", func(a given) []any { return results(tree.Check(a.g, a.x)) }},
		{"Symbol", func(a given) []any { return results(tree.Symbol(a.g, a.x)) }},
		{"Tokens", func(a given) []any { return results(tree.Tokens(a.x)) }},
		{"Word", func(a given) []any { return results(tree.Word(a.x)) }},
		{"Text", func(a given) []any { return results(tree.Text(a.x)) }},
		{"Size", func(a given) []any { return results(tree.Size(a.x)) }},
		{"Paths", func(a given) []any { return results(tree.Paths(a.x)) }},
		{"Part", func(a given) []any { return results(tree.Part(a.x, a.path)) }},
		{"Put", func(a given) []any { return results(tree.Put(a.x, a.path, a.y)) }},
		{"Span", func(a given) []any { return results(tree.Span(a.x, a.path)) }},
		{"Nth", func(a given) []any { return results(tree.Nth(a.x, a.n)) }},
		{"Find", func(a given) []any { return results(tree.Find(a.x, a.n)) }},
		{"Cover", func(a given) []any { return results(tree.Cover(a.x, a.n, a.m)) }},
		{"Place", func(a given) []any { return results(tree.Place(a.x, a.path)) }},
		{"Alike", func(a given) []any { return results(tree.Alike(a.x, a.y)) }},
		{"Diff", func(a given) []any { return results(tree.Diff(a.x, a.y)) }},
		{"Distinct", func(a given) []any { return results(tree.Distinct(a.x)) }},
		{"Shared", func(a given) []any { return results(tree.Shared(a.x, a.y)) }},
		{"Distance", func(a given) []any { return results(tree.Distance(a.x, a.y)) }},
		{"Dump", func(a given) []any { return results(tree.Dump(a.x)) }},
		{"Read", func(a given) []any { return results(tree.Read(a.s)) }},
	}
}

// endless is a tree that has itself as a Kid.
func endless() api.Tree {
	kids := make([]api.Tree, 2)
	kids[0] = blank
	kids[1] = node(0, kids...)
	kids[1].Kids = kids
	return node(0, kids...)
}

// odd are arguments most of which are wrong in some way, or large.
func odd() []given {
	leaves := leaf("num", strings.Repeat("\xff", api.MaxText), "")
	trees := []api.Tree{
		mixed(), blank, node(2), {Rule: -1}, node(math.MinInt), node(math.MaxInt, blank), endless(), leaves,
		{Rule: -1, Kids: make([]api.Tree, 200_000)}, node(0, make([]api.Tree, 200_000)...), leaf(bytes(200_000), "", ""), leaf("a", bytes(200_000), bytes(200_000)),
		chain(api.MaxDepth-1, blank), chain(200_000, blank), node(0, times(api.MaxNodes-1, leaf("num", "", "1"))...),
		chain(api.MaxDepth-2, node(3, times(api.MaxNodes-api.MaxDepth, blank)...)), node(1, node(3, leaf("num", " ", "1"))),
	}
	grammars := []api.Grammar{sums(), {}, {Rules: make([]api.Rule, 200_000)}}
	paths := [][]int{nil, {0}, {2, 1}, {-1}, make([]int, api.MaxDepth-1), make([]int, 200_000), {math.MaxInt}, {math.MinInt}}
	ints := []int{0, 1, -1, 5, 12, math.MinInt, math.MaxInt, 19_999, 20_000}
	strs := []string{mixedText, "", "a", "(0 ", strings.Repeat("(0 ", 6_666), strings.Repeat("(", api.MaxText), bytes(200_000), strings.Repeat("\xff", 200_000)}
	var list []given
	for i := range len(trees) * 8 {
		list = append(list, given{grammars[i%3], trees[i%len(trees)], trees[i*5%len(trees)], paths[i%8], ints[i%9], ints[i*2%9], strs[i%8]})
	}
	return list
}

// Z1, Z3: every call returns, and with an error all other results are zero values.
func TestZeroWithErrors(t *testing.T) {
	for _, a := range odd() {
		for _, c := range calls() {
			got := c.run(a)
			err := got[len(got)-1].(api.Errno)
			for i, x := range got[:len(got)-1] {
				place := c.name == "Read" && i == 1 && err == api.ErrSyntax
				if v := reflect.ValueOf(x); err != api.OK && !place && !v.IsZero() {
					t.Errorf("%s: result %d is %.100v with error %v", c.name, i, x, err)
				}
			}
		}
	}
}

// Z4: all functions with trees first return the error of CheckTree, for each tree in order.
func TestTreesFirst(t *testing.T) {
	a := given{g: sums(), x: leaf("num", "", "1"), y: leaf("num", "", "2"), path: []int{-1}, n: -1, m: -1}
	for _, c := range calls() {
		b := a
		b.x, b.y = node(0, leaf("", "", "")), node(100)
		got := c.run(b)
		if c.name != "Read" {
			is(t, []any{c.name, got[len(got)-1]}, []any{c.name, api.ErrName})
		}
		if slices.Contains([]string{"Put", "Alike", "Diff", "Shared", "Distance"}, c.name) {
			b.x = a.x
			got = c.run(b)
			is(t, []any{c.name, got[len(got)-1]}, []any{c.name, api.ErrKind})
		}
	}
}

// usual are arguments that are right.
func usual(t *testing.T) given {
	x := read(t, "(0 (0 (1 (3 num\"\"\"1\")) plus\" \"\"+\" (2)) plus\" \"\"+\" (3 num\" \"\"2\"))")
	y := read(t, "(1 (3 num\"\"\"1\"))")
	return given{sums(), x, y, []int{0, 0}, 1, 3, mixedText}
}

// hidden is an equal tree whose lists have other memory behind their lengths.
func hidden(x api.Tree) api.Tree {
	kids := []api.Tree{}
	for _, kid := range x.Kids {
		kids = append(kids, hidden(kid))
	}
	x.Kids = append(kids, node(77), node(77))[:len(kids)]
	return x
}

// seen is a tree with the memory behind its lists.
func seen(x api.Tree) string {
	s := fmt.Sprint(x.Rule, x.Token, x.Kids[len(x.Kids):cap(x.Kids)])
	for _, kid := range x.Kids {
		s += seen(kid)
	}
	return s
}

// Z2: arguments are not modified, nor is memory behind the lengths of their lists; nor is it looked at.
func TestArgumentsStay(t *testing.T) {
	plain, a := usual(t), usual(t)
	a.x, a.y = hidden(a.x), hidden(a.y)
	a.path = append(a.path, 7, 7, 7)[:2]
	look := func() string { return fmt.Sprint(seen(a.x), seen(a.y), a.path[:5]) }
	before := look()
	for _, c := range calls() {
		is(t, []any{c.name, c.run(a)}, []any{c.name, c.run(plain)})
		is(t, []any{c.name, look()}, []any{c.name, before})
	}
}

// spoil writes over all of a list, behind its length, too.
func spoil[T any](list []T, by T) {
	list = list[:cap(list)]
	for i := range list {
		list[i] = by
	}
}

// spoilKids writes over all of a tree but its own fields.
func spoilKids(x api.Tree) {
	for _, kid := range x.Kids {
		spoilKids(kid)
	}
	spoil(x.Kids, node(55))
}

// spoilPaths writes over all paths, one by one, and asks each time whether the others stay.
func spoilPaths(t *testing.T, paths [][]int) {
	for i := range paths {
		before := fmt.Sprint(paths[:i], paths[i+1:])
		spoil(paths[i], 99)
		is(t, fmt.Sprint(paths[:i], paths[i+1:]), before)
	}
}

// Z2: changing results changes neither arguments nor other results.
func TestResultsAreNew(t *testing.T) {
	a := usual(t)
	before := fmt.Sprint(a)
	part, _ := tree.Part(a.x, nil)
	spoilKids(part)
	part, _ = tree.Part(a.x, a.path)
	spoilKids(part)
	whole, _ := tree.Put(a.x, []int{2}, a.y)
	spoilKids(whole)
	whole, _ = tree.Put(a.x, nil, a.y)
	spoilKids(whole)
	tokens, _ := tree.Tokens(a.x)
	spoil(tokens, api.Token{Kind: "z"})
	word, _ := tree.Word(a.x)
	spoil(word, "z")
	paths, _ := tree.Paths(a.x)
	spoilPaths(t, paths)
	x, y := read(t, "(0 (1 (2) (3) (4)) (1 (2) (3)) (5))"), read(t, "(0 (1 (9) (9) (9)) (1 (9) (9)) (9))")
	paths, _ = tree.Diff(x, y)
	is(t, len(paths), 6)
	spoilPaths(t, paths)
	is(t, fmt.Sprint(a), before)
}

// Z2: parts whose memory is one and the same get each memory of its own.
func TestResultsShareNothing(t *testing.T) {
	x := node(0, times(3, node(1, blank, node(2, blank)))...)
	for _, path := range [][]int{nil, {1}, {1, 1}} {
		whole, _ := tree.Put(x, path, node(1, times(2, node(4, blank))...))
		for i := range whole.Kids {
			before := fmt.Sprint(whole.Kids[:i], whole.Kids[i+1:])
			spoilKids(whole.Kids[i])
			is(t, fmt.Sprint(whole.Kids[:i], whole.Kids[i+1:]), before)
		}
	}
	part, _ := tree.Part(x, nil)
	spoilKids(part.Kids[0])
	is(t, part.Kids[1:], x.Kids[1:])
	is(t, x.Kids[0], x.Kids[1])
	same, _, _ := tree.Read("(0 (1 (2)) (1 (2)))")
	spoilKids(same.Kids[0])
	is(t, same.Kids[1], node(1, node(2)))
}

// Z1, Z7: the same arguments give the same results, also from several goroutines at once.
func TestSameResults(t *testing.T) {
	a, b := usual(t), usual(t)
	b.x, b.y, b.path, b.n, b.m = mixed(), node(9, mixed(), mixed()), []int{2, 1}, 2, 4
	all := func() string {
		var s strings.Builder
		for _, c := range calls() {
			fmt.Fprintln(&s, c.name, c.run(a), c.run(b))
		}
		return s.String()
	}
	want := all()
	got := make([]string, 8)
	var group sync.WaitGroup
	for i := range got {
		group.Go(func() { got[i] = all() })
	}
	group.Wait()
	for _, s := range got {
		is(t, s, want)
	}
}

// filled is an equal tree in which no list is nil.
func filled(x api.Tree) api.Tree {
	kids := []api.Tree{}
	for _, kid := range x.Kids {
		kids = append(kids, filled(kid))
	}
	x.Kids = kids
	return x
}

// Z5: empty and nil lists are the same.
func TestEmptyLists(t *testing.T) {
	a, b := usual(t), usual(t)
	b.x, b.y = filled(b.x), filled(b.y)
	a.path, b.path = nil, []int{}
	for _, c := range calls() {
		is(t, []any{c.name, c.run(a)}, []any{c.name, c.run(b)})
	}
	same, _ := tree.Alike(a.x, b.x)
	paths, _ := tree.Diff(a.x, b.x)
	n, _ := tree.Distinct(node(0, a.x, b.x))
	m, _ := tree.Distinct(node(0, a.x))
	far, _ := tree.Distance(a.x, b.x)
	is(t, []any{same, len(paths), n - m, far}, []any{true, 0, 0, 0})
}
