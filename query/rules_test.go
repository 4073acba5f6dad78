package query_test

import (
	"fmt"
	"math"
	"reflect"
	"slices"
	"strings"
	"sync"
	"testing"

	"hedgelayer/api"
	"hedgelayer/query"
)

// These tests are about the rules for all chapters, Z1 to Z8.

// given are the arguments of a call.
type given struct {
	g    api.Grammar
	p, q api.Query
	l    []api.Swap
	x    api.Tree
	b    []api.Bound
	path []int
	most int
	text string
}

// call is a function, with what it returns for some arguments.
type call struct {
	name string
	run  func(a given) []any
}

func results(x ...any) []any { return x }

// first is the first rule of rewriting, an empty one if there is none.
func (a given) first() api.Swap {
	for _, s := range a.l {
		return s
	}
	return api.Swap{}
}

func calls() []call {
	return []call{
		{"CheckQuery", func(a given) []any { return results(query.CheckQuery(a.q)) }},
		{"Check", func(a given) []any { return results(query.Check(a.g, a.q)) }},
		{"Binds", func(a given) []any { return results(query.Binds(a.g, a.q)) }},
		{"Fits", func(a given) []any { return results(query.Fits(a.g, a.q, a.x)) }},
		{"Find", func(a given) []any { return results(query.Find(a.g, a.q, a.x)) }},
		{"Count", func(a given) []any { return results(query.Count(a.g, a.q, a.x)) }},
		{"CheckSwap", func(a given) []any { return results(query.CheckSwap(a.g, a.first())) }},
		{"Build", func(a given) []any { return results(query.Build(a.g, a.first().To, a.b)) }},
		{"At", func(a given) []any { return results(query.At(a.g, a.first(), a.x, a.path)) }},
		{"Once", func(a given) []any { return results(query.Once(a.g, a.l, a.x)) }},
		{"Rewrite", func(a given) []any { return results(query.Rewrite(a.g, a.l, a.x, a.most)) }},
		{"Covers", func(a given) []any { return results(query.Covers(a.g, a.p, a.q)) }},
		{"Unify", func(a given) []any { return results(query.Unify(a.g, a.p, a.q)) }},
		{"Overlaps", func(a given) []any { return results(query.Overlaps(a.g, a.l)) }},
		{"Text", func(a given) []any { return results(query.Text(a.q)) }},
		{"Read", func(a given) []any { return results(query.Read(a.text)) }},
	}
}

// usual are arguments that are right, also for functions that take plain queries alone.
func usual(t *testing.T) given {
	return given{
		grammar(t, mixed), ask(t, "(0 y@_ (2 _))"), ask(t, "z@(0 x@_ y@_)"),
		swaps(t, "z@(0 x@(0 w@_ v@_) y@_) => (0 (0 w@_ y@_) (3 b\"1\" (4 c\"1\" x@_ c\"2\")))", "(0 _ y@(3 b x@_)) => (0 (1) y@_)", "a => a\"7\""),
		plant(t, "(0 (0 (1) (2 ~a:1)) (3 b (4 c:1 (0 (0 (1) (2 a)) (2 a:2)) c:2)))"),
		bounds(t, "v=(2 a:1);w=(0 (1) (2 a));x=(0 (1) (2 a));y=(2 a)"), []int{1, 1, 1}, 3, "(0 {x@_ | (1)} !^a\"\\00\",\" \")",
	}
}

// odd are arguments most of which are wrong in some way, or large.
func odd(t *testing.T) []given {
	huge := strings.Repeat("\xff", 200_000)
	loop := []api.Query{anyPart(), anyPart()}
	loop[0] = nodes(0, loop...)
	loop[0].Args = loop
	kids := []api.Tree{node(1), leaf("a", "", "")}
	kids[0] = node(0, kids...)
	kids[0].Kids = kids
	grammars := []api.Grammar{grammar(t, mixed), grammar(t, mixed), grammar(t, sums), {}, {Kinds: make([]string, 200_000)}, {Rules: make([]api.Rule, 200_000)}, {Start: huge, Rules: []api.Rule{{Left: "s"}}}}
	queries := []api.Query{
		ask(t, "(0 x@_ _)"), ask(t, "a"), ask(t, "a\"1\""), ask(t, "(1)"), ask(t, "x@(1)"), ask(t, "{a | b}"), ask(t, "^!(1)"), ask(t, "x@_"), ask(t, "(0 ^x@(1) ^x@(1))"), anyPart(), {}, {Op: -1}, {Op: math.MaxInt}, loop[0], nodes(math.MaxInt), nodes(math.MinInt), nodes(99), nodes(0), leaves(huge, huge, huge), leaves("a", huge, huge), named(huge, anyPart()),
		nodes(0, make([]api.Query, 200_000)...), {Op: api.QueryEither, Args: make([]api.Query, 200_000)}, {Op: api.QueryAny, Args: make([]api.Query, 200_000)}, chained(1_000, anyPart()),
	}
	trees := []api.Tree{plant(t, "(0 (1) (2 a))"), leaf("a", "", ""), leaf(huge, "", ""), {}, {Rule: math.MinInt}, {Rule: math.MaxInt}, kids[0], node(0, make([]api.Tree, 200_000)...), {Rule: -1, Kids: make([]api.Tree, 200_000)}, leaf("a", huge, huge)}
	boundLists := [][]api.Bound{nil, bounds(t, "x=(1)"), make([]api.Bound, 200_000), {{Name: huge}}, {{Name: "x", Part: kids[0]}}}
	paths := [][]int{nil, {0}, {-1}, {1, 0}, {math.MaxInt}, {math.MinInt}, make([]int, 200_000)}
	ints := []int{0, 1, 1_000, -1, 1_001, math.MinInt, math.MaxInt}
	texts := []string{"", "_", "(", "{a | }", huge, strings.Repeat("!", 20_000), strings.Repeat("(0 ", 6_666), "x@x@_"}
	var list []given
	for i, g := range grammars {
		for j, p := range queries {
			for k, q := range queries {
				n := i + 3*j + 7*k
				if i > 1 && n%5 > 0 {
					continue
				}
				l := []api.Swap{{From: q, To: p}, {From: p, To: queries[n%len(queries)]}}
				switch n % 6 {
				case 0:
					l = make([]api.Swap, 200_000)
				case 1, 2, 3:
					l = l[:1]
				}
				list = append(list, given{g, p, q, l, trees[n%len(trees)], boundLists[n%len(boundLists)], paths[n%len(paths)], ints[n%len(ints)], texts[n%len(texts)]})
			}
		}
	}
	return list
}

// Z1, Z3: every call returns, and with an error, or with false where there is no value, all other results are zero values.
func TestZeroWithErrors(t *testing.T) {
	right := map[string]int{}
	for _, a := range odd(t) {
		for _, c := range calls() {
			got := c.run(a)
			err := got[len(got)-1].(api.Errno)
			if err == api.OK {
				right[c.name]++
			}
			none := c.name == "Unify" && got[1] == false || c.name == "Fits" && got[1] == false
			for i, x := range got[:len(got)-1] {
				offset := c.name == "Read" && i == 1 && err == api.ErrSyntax
				if (err != api.OK || none) && !offset && !reflect.ValueOf(x).IsZero() {
					t.Errorf("%s: result %d is %.100v with error %v", c.name, i, x, err)
				}
			}
		}
	}
	for _, c := range calls() {
		if right[c.name] == 0 {
			t.Errorf("%s: no call was right", c.name)
		}
	}
}

// hidden is a list with other memory behind its length.
func hidden[T any](list []T, by T) []T {
	return append(slices.Clone(list), by, by, by)[:len(list)]
}

// hideKids has other memory behind all Kids of a tree.
func hideKids(x api.Tree) api.Tree {
	var kids []api.Tree
	for _, kid := range x.Kids {
		kids = append(kids, hideKids(kid))
	}
	x.Kids = hidden(kids, api.Tree{Rule: 77})
	return x
}

// hideArgs has other memory behind all Args of a query.
func hideArgs(q api.Query) api.Query {
	var args []api.Query
	for _, arg := range q.Args {
		args = append(args, hideArgs(arg))
	}
	q.Args = hidden(args, api.Query{Op: 77})
	return q
}

// wholeTree is a text of a tree with all memory behind its Kids.
func wholeTree(x api.Tree) string {
	s := fmt.Sprint(x.Rule, x.Token, "(")
	for _, kid := range x.Kids {
		s += wholeTree(kid)
	}
	return s + fmt.Sprint(x.Kids[len(x.Kids):len(x.Kids)+3], ")")
}

// wholeQuery is a text of a query with all memory behind its Args.
func wholeQuery(q api.Query) string {
	s := fmt.Sprint(q.Op, q.Bind, q.Kind, q.Lead, q.Text, q.Rule, "(")
	for _, arg := range q.Args {
		s += wholeQuery(arg)
	}
	return s + fmt.Sprint(q.Args[len(q.Args):len(q.Args)+3], ")")
}

// Z2: arguments are not modified, nor is memory behind the lengths of their lists; nor is it looked at.
func TestArgumentsStay(t *testing.T) {
	plain, a := usual(t), usual(t)
	for i, r := range a.g.Rules {
		a.g.Rules[i].Right = hidden(r.Right, "hidden")
	}
	a.g.Kinds, a.g.Rules = hidden(a.g.Kinds, "hidden"), hidden(a.g.Rules, api.Rule{Left: "hidden"})
	a.p, a.q, a.x, a.path = hideArgs(a.p), hideArgs(a.q), hideKids(a.x), hidden(a.path, 9)
	for i, s := range a.l {
		a.l[i] = api.Swap{From: hideArgs(s.From), To: hideArgs(s.To)}
	}
	for i, b := range a.b {
		a.b[i].Part = hideKids(b.Part)
	}
	a.l, a.b = hidden(a.l, api.Swap{}), hidden(a.b, api.Bound{Name: "hidden"})
	look := func() string {
		s := fmt.Sprint(a.g.Kinds[:6], a.g.Rules[:9], wholeQuery(a.p), wholeQuery(a.q), wholeTree(a.x), a.path[:6], a.l[:6], a.b[:7])
		for _, r := range a.g.Rules {
			s += fmt.Sprint(r.Right[:len(r.Right)+3])
		}
		for _, x := range a.l {
			s += wholeQuery(x.From) + wholeQuery(x.To)
		}
		for _, x := range a.b {
			s += wholeTree(x.Part)
		}
		return s
	}
	before := look()
	for _, c := range calls() {
		got := c.run(a)
		is(t, []any{c.name, got, got[len(got)-1]}, []any{c.name, c.run(plain), api.OK})
		is(t, []any{c.name, look()}, []any{c.name, before})
	}
}

// spoil writes over all of a list, behind its length, too.
func spoil[T any](list []T, by T) {
	list = list[:cap(list)]
	for i := range list {
		list[i] = by
	}
}

// spoilKids writes over all of a tree below its root.
func spoilKids(x api.Tree) {
	for _, kid := range x.Kids {
		spoilKids(kid)
	}
	spoil(x.Kids, api.Tree{Rule: 55})
}

func spoilArgs(q api.Query) {
	for _, arg := range q.Args {
		spoilArgs(arg)
	}
	spoil(q.Args, api.Query{Op: 55})
}

// spoilEach writes over each of some parts of a result, told as text and how to write over it, and asks each time whether all others stay.
func spoilEach(t *testing.T, parts []func() (string, func())) {
	t.Helper()
	for i, part := range parts {
		rest := func() string {
			s := ""
			for _, other := range slices.Concat(parts[:i], parts[i+1:]) {
				one, _ := other()
				s += one + ";"
			}
			return s
		}
		before := rest()
		_, write := part()
		write()
		is(t, rest(), before)
	}
}

func ofTree(x api.Tree) func() (string, func()) {
	return func() (string, func()) { return fmt.Sprint(x.Kids), func() { spoilKids(x) } }
}

func ofPath(path []int) func() (string, func()) {
	return func() (string, func()) { return fmt.Sprint(path), func() { spoil(path, 55) } }
}

// Z2: changing one part of a result changes neither arguments nor other parts; no two Kids of a result are one.
func TestResultsAreNew(t *testing.T) {
	a := usual(t)
	list, _ := query.Find(a.g, ask(t, "{z@(0 x@_ y@_) | z@(0 x@_ y@_)}"), a.x)
	parts := []func() (string, func()){}
	for _, m := range list {
		parts = append(parts, ofPath(m.Path))
		for _, b := range m.Bounds {
			parts = append(parts, ofTree(b.Part))
		}
	}
	is(t, len(parts), 4*4)
	spoilEach(t, parts)
	b, _, _ := query.Fits(a.g, a.q, a.x)
	spoilEach(t, []func() (string, func()){ofTree(b[0].Part), ofTree(b[1].Part), ofTree(b[2].Part)})
	twice := swap(t, "(0 x@_ y@_) => (0 (0 x@_ y@_) y@_)")
	x, _ := query.Build(a.g, twice.To, a.b)
	spoilEach(t, []func() (string, func()){ofTree(x.Kids[0].Kids[0]), ofTree(x.Kids[0].Kids[1]), ofTree(x.Kids[1])})
	at, _, _ := query.At(a.g, twice, a.x, []int{1, 1, 1})
	spoilEach(t, []func() (string, func()){ofTree(at.Kids[0]), ofTree(at.Kids[1].Kids[1].Kids[1].Kids[0].Kids[1]), ofTree(at.Kids[1].Kids[1].Kids[1].Kids[1])})
	same, _, _ := query.At(a.g, twice, a.x, nil)
	spoilKids(same)
	same, _, _ = query.At(a.g, twice, a.x, []int{0, 0})
	spoilKids(same)
	once, done, _, _ := query.Once(a.g, []api.Swap{twice}, a.x)
	spoilEach(t, []func() (string, func()){ofTree(once.Kids[0].Kids[1]), ofTree(once.Kids[1]), ofPath(done.Path)})
	again, steps, _, _ := query.Rewrite(a.g, []api.Swap{twice}, a.x, 2)
	parts = []func() (string, func()){ofTree(again.Kids[0].Kids[0].Kids[1]), ofTree(again.Kids[0].Kids[1]), ofTree(again.Kids[1])}
	for _, s := range steps {
		parts = append(parts, ofPath(s.Path))
	}
	spoilEach(t, parts)
	for _, l := range [][]api.Swap{nil, swaps(t, "c\"9\" => c\"1\"")} {
		same, _, _, _ = query.Once(a.g, l, a.x)
		spoilKids(same)
		same, _, _, _ = query.Rewrite(a.g, l, a.x, 5)
		spoilKids(same)
	}
	for _, p := range []api.Query{a.p, anyPart()} {
		u, _, _ := query.Unify(a.g, p, a.q)
		spoilArgs(u)
		u, _, _ = query.Unify(a.g, a.q, p)
		spoilArgs(u)
	}
	overlaps, _ := query.Overlaps(a.g, a.l)
	parts = nil
	for _, o := range overlaps {
		parts = append(parts, ofPath(o.Path))
	}
	spoilEach(t, parts)
	is(t, a, usual(t))
}

// Z1, Z7: the same arguments give the same results, also from several goroutines at once.
func TestSameResults(t *testing.T) {
	a := usual(t)
	many := a
	many.q = ask(t, "(0 {(0 e@_ b@_) | (0 e@_ b@_)} (3 k@b (4 a@_ (0 (0 d@_ _) (2 h@_)) c@_)))")
	is(t, query.Check(a.g, many.q), api.OK)
	all := func() string {
		var s strings.Builder
		for _, x := range []given{a, many} {
			for _, c := range calls() {
				fmt.Fprintln(&s, c.name, c.run(x))
			}
		}
		return s.String()
	}
	want := all()
	got := make([]string, 8)
	var group sync.WaitGroup
	for i := range got {
		group.Go(func() { got[i] = all() })
	}
	group.Wait()
	for _, s := range got {
		is(t, s == want, true)
	}
}

// Z5: empty and nil lists are the same.
func TestEmptyLists(t *testing.T) {
	g := api.Grammar{Start: "s", Rules: []api.Rule{{Left: "s"}}}
	q, empty := nodes(0), nodes(0)
	empty.Args = []api.Query{}
	a := given{g: g, p: q, q: q, x: node(0), text: "(0)"}
	b := given{
		api.Grammar{Kinds: []string{}, Start: "s", Rules: []api.Rule{{Left: "s", Right: []string{}}}}, empty, empty, []api.Swap{}, api.Tree{Kids: []api.Tree{}}, []api.Bound{}, []int{}, 0, "(0)",
	}
	for _, c := range calls() {
		is(t, []any{c.name, c.run(a)}, []any{c.name, c.run(b)})
	}
	a.l, b.l = []api.Swap{{From: q, To: q}}, []api.Swap{{From: empty, To: empty}}
	for _, c := range calls() {
		got := c.run(a)
		is(t, []any{c.name, got}, []any{c.name, c.run(b)})
		is(t, []any{c.name, got[len(got)-1]}, []any{c.name, api.OK})
	}
	list, err := query.Find(usual(t).g, usual(t).q, emptyKids(usual(t).x))
	want, _ := query.Find(usual(t).g, usual(t).q, usual(t).x)
	is(t, []any{matches(list), err}, []any{matches(want), api.OK})
}

// emptyKids is a tree whose lists without elements are not nil.
func emptyKids(x api.Tree) api.Tree {
	kids := []api.Tree{}
	for _, kid := range x.Kids {
		kids = append(kids, emptyKids(kid))
	}
	x.Kids = kids
	return x
}
