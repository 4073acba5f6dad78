package query_test

import (
	"fmt"
	"math/rand/v2"
	"reflect"
	"slices"
	"strings"
	"testing"

	"hedgelayer/api"
	"hedgelayer/gram"
	"hedgelayer/query"
	"hedgelayer/tree"
)

// These tests compare the functions with plain ways to find the same, of many small grammars, trees and queries.

func pick[T any](r *rand.Rand, list ...T) T { return list[r.IntN(len(list))] }

// randomGrammar has at most three kinds and three Lefts, in any case a Left that can be empty.
func randomGrammar(r *rand.Rand) api.Grammar {
	for {
		g := api.Grammar{Kinds: []string{"a", "m", "z"}[:1+r.IntN(3)], Start: "s", Rules: []api.Rule{{Left: "s"}}}
		lefts := []string{"s", "b", "u"}[:1+r.IntN(3)]
		symbols := append(slices.Clone(lefts), g.Kinds...)
		for range len(lefts) + r.IntN(3) {
			rule := api.Rule{Left: pick(r, lefts...)}
			for range r.IntN(4) {
				rule.Right = append(rule.Right, pick(r, symbols...))
			}
			g.Rules = append(g.Rules, rule)
		}
		if gram.Check(g) == api.OK {
			return g
		}
	}
}

// rulesOf are the rules of a Left.
func rulesOf(g api.Grammar, left string) []int {
	var rules []int
	for i, rule := range g.Rules {
		if rule.Left == left {
			rules = append(rules, i)
		}
	}
	return rules
}

// randomTree is a tree of a symbol; false if it becomes too deep.
func randomTree(r *rand.Rand, g api.Grammar, symbol string, depth int) (api.Tree, bool) {
	if slices.Contains(g.Kinds, symbol) {
		return leaf(symbol, pick(r, "", "", " ", "  "), pick(r, "", "1", "1", "2")), true
	}
	rules := rulesOf(g, symbol)
	if depth == 0 || len(rules) == 0 {
		return api.Tree{}, false
	}
	x := node(pick(r, rules...))
	for _, symbol := range g.Rules[x.Rule].Right {
		kid, ok := randomTree(r, g, symbol, depth-1)
		if !ok {
			return api.Tree{}, false
		}
		x.Kids = append(x.Kids, kid)
	}
	return x, true
}

// grown is a tree of any Left, with some parts at least if there are such.
func grown(r *rand.Rand, g api.Grammar) api.Tree {
	best, most := node(0), 1
	for range 20 {
		x, ok := randomTree(r, g, pick(r, g.Rules...).Left, 5)
		if n, _, _ := tree.Size(x); ok && n > most && n <= 25 {
			best, most = x, n
		}
	}
	return best
}

// plainPart is a part of a tree with its path.
type plainPart struct {
	path []int
	tree api.Tree
}

func plainParts(path []int, x api.Tree) []plainPart {
	list := []plainPart{{path, x}}
	for i, kid := range x.Kids {
		list = append(list, plainParts(append(slices.Clone(path), i), kid)...)
	}
	return list
}

// about is a query that fits a part more often than not.
func about(r *rand.Rand, g api.Grammar, x api.Tree, depth int) api.Query {
	q := anyPart()
	switch n := r.IntN(16); {
	case depth == 0 || n == 0:
		return not(pick(r, leaves(pick(r, g.Kinds...), "", ""), blankOf(g, r.IntN(len(g.Rules)))))
	case n == 1:
		first := about(r, g, x, depth-1)
		return either(first, loosened(r, first))
	case n == 2:
		first := about(r, g, x, depth-1)
		return either(loosened(r, first), first)
	case n <= 4:
		return deep(about(r, g, pick(r, plainParts(nil, x)...).tree, depth-1))
	case n <= 6:
		break
	case x.Rule == -1:
		q = leaves(x.Token.Kind, "", pick(r, "", x.Token.Text))
	default:
		q = nodes(x.Rule)
		for _, kid := range x.Kids {
			q.Args = append(q.Args, about(r, g, kid, depth-1))
		}
	}
	if r.IntN(3) == 0 {
		q.Bind = pick(r, "x", "x", "x", "y", "z")
	}
	return q
}

// blankOf is a query for the nodes of a rule.
func blankOf(g api.Grammar, rule int) api.Query {
	return nodes(rule, slices.Repeat([]api.Query{anyPart()}, len(g.Rules[rule].Right))...)
}

// loosened is a query with the same names, in which some others have become QueryAny.
func loosened(r *rand.Rand, q api.Query) api.Query {
	if s, _ := query.Text(q); !strings.Contains(s, "@") && r.IntN(2) == 0 {
		return anyPart()
	}
	if q.Op == api.QueryLeaf && r.IntN(2) == 0 {
		q.Text = pick(r, "", "1", "2")
	}
	var args []api.Query
	for _, arg := range q.Args {
		args = append(args, loosened(r, arg))
	}
	q.Args = args
	return q
}

func text(q api.Query) string {
	s, err := query.Text(q)
	if err != api.OK {
		return fmt.Sprint(q)
	}
	return s
}

// each calls test with many grammars and trees.
func each(t *testing.T, seed uint64, count int, test func(r *rand.Rand, g api.Grammar, x api.Tree)) {
	t.Helper()
	r := rand.New(rand.NewPCG(80, seed))
	for range count {
		g := randomGrammar(r)
		x := grown(r, g)
		test(r, g, x)
		if t.Failed() {
			s, _ := gram.Text(g)
			t.Fatalf("of the grammar\n%s and the tree %s", s, drawn(x))
		}
	}
}

// rightQuery is a query that Check takes, about some part of a tree.
func rightQuery(r *rand.Rand, g api.Grammar, x api.Tree) api.Query {
	for {
		q := about(r, g, pick(r, plainParts(nil, x)...).tree, 4)
		if r.IntN(2) == 0 {
			q = renamed(r, g, q)
		}
		if query.Check(g, q) == api.OK {
			return q
		}
	}
}

// renamed is a query of which two queries, for the same sort if there are such, have got the same name.
func renamed(r *rand.Rand, g api.Grammar, q api.Query) api.Query {
	list := plainQueries(q, nil, nil)
	for range 20 {
		a, b := pick(r, list...), pick(r, list...)
		if a.Op <= api.QueryNode && b.Op <= api.QueryNode && slices.Compare(a.path, b.path) < 0 && stands(g, a) == stands(g, b) {
			return withName(withName(q, a.path, "w"), b.path, "w")
		}
	}
	return q
}

// withName is a query in which the one at a path has a name.
func withName(q api.Query, path []int, name string) api.Query {
	if len(path) == 0 {
		return named(name, q)
	}
	q.Args = slices.Clone(q.Args)
	q.Args[path[0]] = withName(q.Args[path[0]], path[1:], name)
	return q
}

// consistent reports whether all parts with the same name are alike.
func consistent(list []api.Bound) bool {
	for i, b := range list {
		for _, c := range list[:i] {
			if same, _ := tree.Alike(b.Part, c.Part); b.Name == c.Name && !same {
				return false
			}
		}
	}
	return true
}

// bounded are lists of bounds in which a name is put ahead of each one, and of two lists of lists all pairs, if they are consistent.
func bounded(a, b [][]api.Bound) [][]api.Bound {
	var all [][]api.Bound
	for _, first := range a {
		for _, second := range b {
			if list := slices.Concat(first, second); consistent(list) {
				all = append(all, list)
			}
		}
	}
	return all
}

// lists are all lists of bounds with which a query fits a part, in their order.
func lists(q api.Query, x api.Tree) [][]api.Bound {
	yes := [][]api.Bound{nil}
	var all [][]api.Bound
	switch {
	case q.Op == api.QueryAny, q.Op == api.QueryLeaf && x.Rule == -1 && x.Token.Kind == q.Kind && (q.Text == "" || q.Text == x.Token.Text):
		all = yes
	case q.Op == api.QueryNode && x.Rule == q.Rule:
		all = yes
		for i, arg := range q.Args {
			all = bounded(all, lists(arg, x.Kids[i]))
		}
	case q.Op == api.QueryEither:
		all = append(lists(q.Args[0], x), lists(q.Args[1], x)...)
	case q.Op == api.QueryNot && len(lists(q.Args[0], x)) == 0:
		all = yes
	case q.Op == api.QueryDeep:
		for _, p := range plainParts(nil, x) {
			all = append(all, lists(q.Args[0], p.tree)...)
		}
	}
	if q.Bind != "" {
		all = bounded([][]api.Bound{{{Name: q.Bind, Part: x}}}, all)
	}
	return all
}

// firstOnes are bounds of which the first one of each name stays, rising by Name.
func firstOnes(list []api.Bound) []api.Bound {
	first := map[string]bool{}
	var b []api.Bound
	for _, x := range list {
		if !first[x.Name] {
			first[x.Name] = true
			b = append(b, x)
		}
	}
	slices.SortFunc(b, func(x, y api.Bound) int { return strings.Compare(x.Name, y.Name) })
	return b
}

// P8.3: what a query finds is what the definition says, and it fits nothing else.
func TestRandomFind(t *testing.T) {
	met := map[string]int{}
	each(t, 1, 3_000, func(r *rand.Rand, g api.Grammar, x api.Tree) {
		for range 5 {
			q := rightQuery(r, g, x)
			var want []api.Match
			for _, p := range plainParts(nil, x) {
				all := lists(q, p.tree)
				if len(all) > 0 {
					want = append(want, api.Match{Path: p.path, Bounds: firstOnes(all[0])})
				}
				b, ok, err := query.Fits(g, q, p.tree)
				is(t, []any{text(q), ok, err}, []any{text(q), len(all) > 0, api.OK})
				if ok {
					is(t, []any{text(q), shown(b)}, []any{text(q), shown(firstOnes(all[0]))})
				}
				met[fmt.Sprint("lists ", min(len(all), 2))]++
				met[fmt.Sprint("names ", min(len(b), 2))]++
			}
			list, err := query.Find(g, q, x)
			is(t, []any{text(q), matches(list), err}, []any{text(q), matches(want), api.OK})
			n, err := query.Count(g, q, x)
			is(t, []any{text(q), n, err}, []any{text(q), len(want), api.OK})
			for _, op := range []string{"{", "!", "^", "@"} {
				met[fmt.Sprint(op, strings.Count(text(q), op) > 0, len(want) > 0)]++
			}
			names := strings.Count(text(q), "@")
			sorts, _ := query.Binds(g, q)
			met[fmt.Sprint("twice ", names > len(sorts) && !strings.Contains(text(q), "{"), len(want) > 0)]++
		}
	})
	for _, key := range []string{"lists 0", "lists 1", "lists 2", "names 1", "names 2", "{true true", "{true false", "!true true", "!true false", "^true true", "^true false", "@true true", "@true false", "twice true true", "twice true false"} {
		if met[key] < 80 {
			t.Errorf("%s: %d times", key, met[key])
		}
	}
}

// plainQuery is a query within another one, with those that it is within.
type plainQuery struct {
	api.Query
	path   []int
	around []api.Query
}

func plainQueries(q api.Query, path []int, around []api.Query) []plainQuery {
	list := []plainQuery{{q, path, around}}
	for i, arg := range q.Args {
		list = append(list, plainQueries(arg, append(slices.Clone(path), i), append(slices.Clone(around), q))...)
	}
	return list
}

// sort is the sort of a query; none if it is empty.
func sort(g api.Grammar, q api.Query) string {
	switch q.Op {
	case api.QueryLeaf:
		return q.Kind
	case api.QueryNode:
		return g.Rules[q.Rule].Left
	case api.QueryEither:
		if sort(g, q.Args[0]) == sort(g, q.Args[1]) {
			return sort(g, q.Args[1])
		}
	}
	return ""
}

// wanted is the sort that is wanted of a query, found from within; most is what is wanted of the outermost one.
func (p plainQuery) wanted(g api.Grammar, most string) string {
	for i := len(p.around) - 1; i >= 0; i-- {
		switch p.around[i].Op {
		case api.QueryNode:
			return g.Rules[p.around[i].Rule].Right[p.path[i]]
		case api.QueryDeep:
			return ""
		}
	}
	return most
}

// stands is the sort for which a query stands.
func stands(g api.Grammar, p plainQuery) string {
	if s := sort(g, p.Query); s != "" {
		return s
	}
	return p.wanted(g, "")
}

// badRules is what Check asks first of all queries.
func badRules(g api.Grammar, list []plainQuery, form bool) api.Errno {
	for _, p := range list {
		bare := p.Op == api.QueryAny && p.Bind == "" || p.Op != api.QueryAny && p.Bind != "" || p.Op == api.QueryLeaf && p.Text == "" || p.Op > api.QueryNode
		switch {
		case form && bare:
			return api.ErrForm
		case p.Op == api.QueryLeaf && !slices.Contains(g.Kinds, p.Kind), p.Op == api.QueryNode && p.Rule >= len(g.Rules):
			return api.ErrNone
		case p.Op == api.QueryNode && len(p.Args) != len(g.Rules[p.Rule].Right):
			return api.ErrRule
		}
	}
	return api.OK
}

// plainCheck is Check behind the errors of the grammar and of CheckQuery.
func plainCheck(g api.Grammar, q api.Query) api.Errno {
	list := plainQueries(q, nil, nil)
	if err := badRules(g, list, false); err != api.OK {
		return err
	}
	for i, p := range list {
		denied := slices.ContainsFunc(p.around, func(x api.Query) bool { return x.Op == api.QueryNot })
		s, wanted := sort(g, p.Query), p.wanted(g, "")
		switch {
		case s != "" && wanted != "" && s != wanted:
			return api.ErrType
		case p.Lead != "":
			return api.ErrForm
		case p.Bind != "" && (denied || stands(g, p) == ""):
			return api.ErrState
		case p.Bind != "" && slices.ContainsFunc(list[:i], func(x plainQuery) bool { return x.Bind == p.Bind && stands(g, x) != stands(g, p) }):
			return api.ErrType
		}
	}
	for _, p := range list {
		if p.Op != api.QueryEither && p.Op != api.QueryDeep {
			continue
		}
		within := func(i int) func(x plainQuery) bool {
			path := append(slices.Clone(p.path), i)
			return func(x plainQuery) bool { return len(x.path) >= len(path) && slices.Equal(x.path[:len(path)], path) }
		}
		binds := func(i int, name string) bool {
			return slices.ContainsFunc(list, func(x plainQuery) bool { return x.Bind == name && within(i)(x) })
		}
		for _, name := range []string{"w", "x", "y", "z"} {
			if p.Op == api.QueryEither && binds(0, name) != binds(1, name) {
				return api.ErrConflict
			}
		}
		for _, x := range list {
			if x.Bind != "" && !within(0)(x) && !within(1)(x) && (binds(0, x.Bind) || binds(1, x.Bind)) {
				return api.ErrRule
			}
		}
	}
	return api.OK
}

// altered is a query in which something is another way.
func altered(r *rand.Rand, g api.Grammar, q api.Query) api.Query {
	if len(q.Args) > 0 && r.IntN(3) > 0 {
		q.Args = slices.Clone(q.Args)
		i := r.IntN(len(q.Args))
		q.Args[i] = altered(r, g, q.Args[i])
		return q
	}
	switch n := r.IntN(9); {
	case n == 0:
		return pick(r, anyPart(), not(q), deep(q), either(q, q), named("x", anyPart()))
	case n == 1 && q.Op == api.QueryNode:
		q.Rule = r.IntN(len(g.Rules) + 1)
	case n == 2 && q.Op == api.QueryLeaf:
		q.Kind = pick(r, "a", "m", "z", "d")
	case n == 3 && q.Op == api.QueryLeaf:
		q.Lead = " "
	case n == 4 && q.Op == api.QueryNode && len(q.Args) > 0:
		q.Args = q.Args[1:]
	case n == 5:
		return blankOf(g, r.IntN(len(g.Rules)))
	case n >= 6 && q.Op <= api.QueryNode:
		q.Bind = pick(r, "", "x", "y", "z")
	}
	return q
}

// P8.2: the errors of queries that are right but for some changes.
func TestRandomCheck(t *testing.T) {
	met := map[api.Errno]int{}
	each(t, 2, 3_000, func(r *rand.Rand, g api.Grammar, x api.Tree) {
		for range 20 {
			q := about(r, g, pick(r, plainParts(nil, x)...).tree, 4)
			if r.IntN(3) == 0 {
				q = renamed(r, g, q)
			}
			for range r.IntN(4) {
				q = altered(r, g, q)
			}
			if query.CheckQuery(q) != api.OK {
				continue
			}
			want := plainCheck(g, q)
			met[want]++
			is(t, []any{text(q), query.Check(g, q)}, []any{text(q), want})
			if want != api.OK {
				continue
			}
			bound := map[string]string{}
			for _, p := range plainQueries(q, nil, nil) {
				if p.Bind != "" {
					bound[p.Bind] = stands(g, p)
				}
			}
			var list []api.Pair
			for _, name := range []string{"w", "x", "y", "z"} {
				if bound[name] != "" {
					list = append(list, api.Pair{Name: name, Value: bound[name]})
				}
			}
			got, err := query.Binds(g, q)
			is(t, []any{text(q), got, err}, []any{text(q), list, api.OK})
		}
	})
	for _, err := range []api.Errno{api.OK, api.ErrNone, api.ErrRule, api.ErrType, api.ErrForm, api.ErrState, api.ErrConflict} {
		if met[err] < 200 {
			t.Errorf("error %d: %d times", err, met[err])
		}
	}
}

// randomForm is a form of a sort, with names of which it is known for what they stand; mostly a right one.
func randomForm(r *rand.Rand, g api.Grammar, sort string, sorts []api.Pair, depth int) api.Query {
	var list []string
	for _, p := range sorts {
		if p.Value == sort || r.IntN(40) == 0 {
			list = append(list, p.Name)
		}
	}
	if len(list) > 0 && (depth == 0 || r.IntN(2) == 0) {
		return named(pick(r, list...), anyPart())
	}
	if slices.Contains(g.Kinds, sort) {
		return leaves(sort, pick(r, "", " "), pick(r, "1", "2"))
	}
	rules := rulesOf(g, sort)
	if depth == 0 || len(rules) == 0 {
		return named("v", anyPart())
	}
	q := nodes(pick(r, rules...))
	for _, symbol := range g.Rules[q.Rule].Right {
		q.Args = append(q.Args, randomForm(r, g, symbol, sorts, depth-1))
	}
	return q
}

// randomSwap is a rule of rewriting that is about some part of a tree; most of them are right.
func randomSwap(r *rand.Rand, g api.Grammar, x api.Tree) api.Swap {
	from := rightQuery(r, g, x)
	sorts, _ := query.Binds(g, from)
	return api.Swap{From: from, To: randomForm(r, g, sort(g, from), sorts, 3)}
}

// plainCheckSwap is CheckSwap behind the errors of From.
func plainCheckSwap(g api.Grammar, s api.Swap) api.Errno {
	if s.From.Op != api.QueryLeaf && s.From.Op != api.QueryNode {
		return api.ErrForm
	}
	if err := query.CheckQuery(s.To); err != api.OK {
		return err
	}
	list, top := plainQueries(s.To, nil, nil), sort(g, s.From)
	if err := badRules(g, list, true); err != api.OK {
		return err
	}
	for _, p := range list {
		if p.Op != api.QueryAny && sort(g, p.Query) != p.wanted(g, top) {
			return api.ErrType
		}
	}
	sorts, _ := query.Binds(g, s.From)
	for _, p := range list {
		i := slices.IndexFunc(sorts, func(x api.Pair) bool { return x.Name == p.Bind })
		switch {
		case p.Op == api.QueryAny && i < 0:
			return api.ErrNone
		case p.Op == api.QueryAny && sorts[i].Value != p.wanted(g, top):
			return api.ErrType
		}
	}
	return api.OK
}

// P8.4: the errors of rules of rewriting.
func TestRandomSwap(t *testing.T) {
	met := map[api.Errno]int{}
	each(t, 3, 2_000, func(r *rand.Rand, g api.Grammar, x api.Tree) {
		for range 10 {
			s := randomSwap(r, g, x)
			for range r.IntN(3) {
				s.To = altered(r, g, s.To)
			}
			want := plainCheckSwap(g, s)
			met[want]++
			is(t, []any{text(s.From), text(s.To), query.CheckSwap(g, s)}, []any{text(s.From), text(s.To), want})
		}
	})
	for _, err := range []api.Errno{api.OK, api.ErrNone, api.ErrRule, api.ErrType, api.ErrForm} {
		if met[err] < 100 {
			t.Errorf("error %d: %d times", err, met[err])
		}
	}
}

// plainAt rewrites a part by Fits, Build and tree.Put.
func plainAt(g api.Grammar, s api.Swap, x api.Tree, path []int) (api.Tree, bool) {
	part, _ := tree.Part(x, path)
	b, ok, _ := query.Fits(g, s.From, part)
	if !ok {
		return x, false
	}
	by, err := query.Build(g, s.To, b)
	if err != api.OK {
		panic(err)
	}
	lead := ""
	if l, _ := tree.Tokens(part); len(l) > 0 {
		lead = l[0].Lead
	}
	if first, err := tree.Nth(by, 0); err == api.OK {
		token, _ := tree.Part(by, first)
		token.Token.Lead = lead
		by, _ = tree.Put(by, first, token)
	}
	x, _ = tree.Put(x, path, by)
	return x, true
}

// plainOnce tries all parts in order, and all rules for each one.
func plainOnce(g api.Grammar, l []api.Swap, x api.Tree) (api.Tree, api.Done, bool) {
	for _, p := range plainParts(nil, x) {
		for i, s := range l {
			if y, ok := plainAt(g, s, x, p.path); ok {
				return y, api.Done{Swap: i, Path: p.path}, true
			}
		}
	}
	return x, api.Done{}, false
}

// rightSwaps are some rules of rewriting that are right.
func rightSwaps(r *rand.Rand, g api.Grammar, x api.Tree) []api.Swap {
	var l []api.Swap
	for range 30 {
		if s := randomSwap(r, g, x); query.CheckSwap(g, s) == api.OK && len(l) < 3 {
			l = append(l, s)
		}
	}
	return l
}

func swapTexts(l []api.Swap) string {
	s := ""
	for _, x := range l {
		s += text(x.From) + " => " + text(x.To) + "; "
	}
	return s
}

// P8.5: parts are rewritten as the definition says; results are well formed, and have the same symbol.
func TestRandomRewrite(t *testing.T) {
	met := map[string]int{}
	each(t, 4, 1_500, func(r *rand.Rand, g api.Grammar, x api.Tree) {
		l := rightSwaps(r, g, pick(r, x, grown(r, g)))
		symbol, _ := tree.Symbol(g, x)
		for _, s := range l {
			for _, p := range plainParts(nil, x) {
				want, changed := plainAt(g, s, x, p.path)
				got, ok, err := query.At(g, s, x, p.path)
				is(t, []any{swapTexts(l), p.path, drawn(got), ok, err}, []any{swapTexts(l), p.path, drawn(want), changed, api.OK})
				met[fmt.Sprint("at ", changed)]++
			}
		}
		want, done, ok := plainOnce(g, l, x)
		got, gotDone, gotOk, err := query.Once(g, l, x)
		is(t, []any{swapTexts(l), drawn(got), gotDone, gotOk, err}, []any{swapTexts(l), drawn(want), done, ok, api.OK})
		most := pick(r, 0, r.IntN(10))
		want = x
		var all []api.Done
		_, done, ok = plainOnce(g, l, x)
		for len(all) < most && ok {
			want, done, _ = plainOnce(g, l, want)
			all = append(all, done)
			if n, _, _ := tree.Size(want); n > 500 {
				most = len(all)
			}
			_, _, ok = plainOnce(g, l, want)
		}
		got, gotAll, ended, err := query.Rewrite(g, l, x, most)
		is(t, []any{swapTexts(l), most, drawn(got), gotAll, ended, err}, []any{swapTexts(l), most, drawn(want), all, !ok, api.OK})
		gotSymbol, err := tree.Symbol(g, got)
		is(t, []any{gotSymbol, err}, []any{symbol, api.OK})
		met[fmt.Sprint("rewrite ", len(all) > 0, ended, most > 0)]++
	})
	for _, key := range []string{"at true", "at false", "rewrite true true true", "rewrite true false true", "rewrite false true true", "rewrite false true false", "rewrite false false false"} {
		if met[key] < 5 {
			t.Errorf("%s: %d times", key, met[key])
		}
	}
}

// goesOn reports whether a path is another one, or goes on from it.
func goesOn(path, from []int) bool {
	return len(path) >= len(from) && slices.Equal(path[:len(from)], from)
}

// Chapter 8, "What follows": tokens that are not in what is replaced stay; two parts, neither of which is within the other one, can be rewritten in either order.
func TestRandomOrder(t *testing.T) {
	pairs := 0
	each(t, 5, 700, func(r *rand.Rand, g api.Grammar, x api.Tree) {
		l := rightSwaps(r, g, x)
		if len(l) < 2 {
			return
		}
		for _, p := range plainParts(nil, x) {
			y, _, _ := query.At(g, l[0], x, p.path)
			for _, o := range plainParts(nil, x) {
				if goesOn(o.path, p.path) || goesOn(p.path, o.path) {
					continue
				}
				same, err := tree.Part(y, o.path)
				is(t, []any{drawn(same), err}, []any{drawn(o.tree), api.OK})
				both, first, err := query.At(g, l[1], y, o.path)
				is(t, err, api.OK)
				z, _, _ := query.At(g, l[1], x, o.path)
				z, second, _ := query.At(g, l[0], z, p.path)
				is(t, drawn(both), drawn(z))
				if first && second {
					pairs++
				}
			}
		}
	})
	if pairs < 50 {
		t.Errorf("only %d pairs", pairs)
	}
}

// isPlain reports whether a query is plain.
func isPlain(q api.Query) bool {
	var met []string
	for _, p := range plainQueries(q, nil, nil) {
		if p.Op > api.QueryNode || p.Bind != "" && slices.Contains(met, p.Bind) {
			return false
		}
		met = append(met, p.Bind)
	}
	return true
}

// rightPlain is a plain query.
func rightPlain(r *rand.Rand, g api.Grammar, x api.Tree) api.Query {
	for {
		if q := rightQuery(r, g, x); isPlain(q) {
			return q
		}
	}
}

// P8.6: what is covered fits nothing else; what is unified fits just what both fit, and is covered by both.
func TestRandomUnify(t *testing.T) {
	met := map[string]int{}
	each(t, 6, 2_000, func(r *rand.Rand, g api.Grammar, x api.Tree) {
		for range 10 {
			p, q := rightPlain(r, g, x), rightPlain(r, g, x)
			covers, err := query.Covers(g, p, q)
			is(t, err, api.OK)
			u, ok, err := query.Unify(g, p, q)
			is(t, err, api.OK)
			if ok {
				is(t, []any{text(u), query.Check(g, u), strings.Contains(text(u), "@")}, []any{text(u), api.OK, false})
				for _, one := range []api.Query{p, q} {
					above, _ := query.Covers(g, one, u)
					is(t, []any{text(one), text(u), above}, []any{text(one), text(u), true})
				}
			}
			is(t, covers && !ok, false)
			for _, y := range plainParts(nil, x) {
				_, a, _ := query.Fits(g, p, y.tree)
				_, b, _ := query.Fits(g, q, y.tree)
				both := false
				if ok {
					_, both, _ = query.Fits(g, u, y.tree)
				}
				is(t, []any{text(p), text(q), both, covers && b && !a}, []any{text(p), text(q), a && b, false})
				met[fmt.Sprint(ok, covers, both)]++
			}
			for _, one := range []api.Query{p, q} {
				self, _ := query.Covers(g, one, one)
				is(t, self, true)
			}
		}
	})
	for _, key := range []string{"true true true", "true true false", "true false true", "true false false", "false false false"} {
		if met[key] < 200 {
			t.Errorf("%s: %d times", key, met[key])
		}
	}
}

// P8.6: overlaps are what Unify says of all queries within others; where two From fit a part, there is one.
func TestRandomOverlaps(t *testing.T) {
	count, errors := 0, 0
	each(t, 7, 2_000, func(r *rand.Rand, g api.Grammar, x api.Tree) {
		l := rightSwaps(r, g, x)
		want, state := []api.Overlap(nil), false
		for _, s := range l {
			state = state || !isPlain(s.From)
		}
		list, err := query.Overlaps(g, l)
		if state {
			errors++
			is(t, []any{list, err}, []any{want, api.ErrState})
			return
		}
		for i, first := range l {
			for j, second := range l {
				for _, p := range plainQueries(first.From, nil, nil) {
					if p.Op == api.QueryAny || i == j && len(p.path) == 0 {
						continue
					}
					if _, ok, _ := query.Unify(g, p.Query, second.From); ok {
						want = append(want, api.Overlap{First: i, Second: j, Path: p.path})
					}
				}
			}
		}
		count += len(want)
		is(t, []any{swapTexts(l), list, err}, []any{swapTexts(l), want, api.OK})
		for _, y := range plainParts(nil, x) {
			if len(l) < 2 {
				break
			}
			_, a, _ := query.Fits(g, l[0].From, y.tree)
			_, b, _ := query.Fits(g, l[1].From, y.tree)
			both := slices.ContainsFunc(list, func(o api.Overlap) bool { return o.First == 0 && o.Second == 1 && len(o.Path) == 0 })
			is(t, a && b && !both, false)
		}
	})
	if count < 500 || errors < 200 {
		t.Errorf("only %d overlaps, %d errors", count, errors)
	}
}

// P8.7: a query is read as it was written.
func TestRandomText(t *testing.T) {
	each(t, 8, 2_000, func(r *rand.Rand, g api.Grammar, x api.Tree) {
		q := about(r, g, x, 5)
		for range r.IntN(4) {
			q = altered(r, g, q)
		}
		if query.CheckQuery(q) != api.OK {
			return
		}
		s, err := query.Text(q)
		is(t, err, api.OK)
		got, at, err := query.Read(s)
		is(t, []any{s, at, err}, []any{s, 0, api.OK})
		is(t, reflect.DeepEqual(got, plainCopy(q)), true)
	})
}

// plainCopy is a query whose lists without elements are nil.
func plainCopy(q api.Query) api.Query {
	var args []api.Query
	for _, arg := range q.Args {
		args = append(args, plainCopy(arg))
	}
	q.Args = args
	return q
}
