package reuse_test

import (
	"fmt"
	"math/rand/v2"
	"reflect"
	"slices"
	"testing"

	"hedgelayer/api"
	"hedgelayer/gram"
	"hedgelayer/parse"
	"hedgelayer/reuse"
	"hedgelayer/table"
	"hedgelayer/tree"
)

// These tests compare the functions with plain ways to find the same, in many small grammars.

// randomGrammar has at most three kinds and four Lefts, and levels up to most.
func randomGrammar(r *rand.Rand, most int) api.Grammar {
	g := api.Grammar{Kinds: []string{"a", "m", "z"}[:1+r.IntN(3)], Start: "s"}
	lefts := []string{"s", "b", "n", "u"}[:1+r.IntN(4)]
	symbols := append(slices.Clone(lefts), g.Kinds...)
	for range len(lefts) + r.IntN(4) {
		rule := api.Rule{Left: lefts[r.IntN(len(lefts))], Level: r.IntN(most + 1)}
		for range r.IntN(4) {
			rule.Right = append(rule.Right, symbols[r.IntN(len(symbols))])
		}
		g.Rules = append(g.Rules, rule)
	}
	return g
}

// accepted are all words of at most 5 tokens that are accepted.
func accepted(g api.Grammar) [][]string {
	words, _ := gram.Words(g, 5)
	return slices.DeleteFunc(words, func(word []string) bool {
		ok, _, err := parse.Accepts(g, word)
		return !ok || err != api.OK
	})
}

// eachGrammar calls test with many grammars that have a table and accept some words, with levels up to most.
func eachGrammar(t *testing.T, count, most int, test func(r *rand.Rand, g api.Grammar, words [][]string)) {
	t.Helper()
	r := rand.New(rand.NewPCG(70, uint64(most)))
	for count > 0 {
		g := randomGrammar(r, most)
		if _, err := table.Make(g, api.TableFull); err != api.OK {
			continue
		}
		words := accepted(g)
		if len(words) < 3 {
			continue
		}
		count--
		test(r, g, words)
		if t.Failed() {
			s, _ := gram.Text(g)
			t.Fatalf("of the grammar\n%s", s)
		}
	}
}

// randomTokens are tokens of a word, most of them without bytes.
func randomTokens(r *rand.Rand, word []string) []api.Token {
	var l []api.Token
	for _, kind := range word {
		token := api.Token{Kind: kind}
		if r.IntN(8) == 0 {
			token.Text = "x"
		}
		if r.IntN(16) == 0 {
			token.Lead = " "
		}
		l = append(l, token)
	}
	return l
}

// randomTree is a tree of a symbol, with tokens as above; false if it becomes too deep.
func randomTree(r *rand.Rand, g api.Grammar, symbol string, depth int) (api.Tree, bool) {
	if slices.Contains(g.Kinds, symbol) {
		return api.Tree{Rule: -1, Token: randomTokens(r, []string{symbol})[0]}, true
	}
	var rules []int
	for i, rule := range g.Rules {
		if rule.Left == symbol {
			rules = append(rules, i)
		}
	}
	if depth == 0 || len(rules) == 0 {
		return api.Tree{}, false
	}
	x := api.Tree{Rule: rules[r.IntN(len(rules))]}
	for _, symbol := range g.Rules[x.Rule].Right {
		kid, ok := randomTree(r, g, symbol, depth-1)
		if !ok {
			return api.Tree{}, false
		}
		x.Kids = append(x.Kids, kid)
	}
	return x, true
}

// randomOld is a tree that the parser has made, or any one.
func randomOld(r *rand.Rand, g api.Grammar, words [][]string) api.Tree {
	if r.IntN(3) == 0 {
		symbol := g.Rules[r.IntN(len(g.Rules))].Left
		if x, ok := randomTree(r, g, symbol, 5); ok {
			return x
		}
	}
	x, _, _ := parse.Parse(g, randomTokens(r, words[r.IntN(len(words))]))
	return x
}

// subtree is a part of a tree with its path and its tokens.
type subtree struct {
	path   []int
	tree   api.Tree
	tokens api.Range
}

// subtrees are all parts of a tree, found by its paths.
func subtrees(x api.Tree) []subtree {
	var list []subtree
	paths, _ := tree.Paths(x)
	for i, path := range paths {
		part, _ := tree.Part(x, path)
		l, _ := tree.Tokens(part)
		from := 0
		for _, s := range list[:i] {
			if s.tree.Rule == -1 {
				from++
			}
		}
		list = append(list, subtree{path, part, api.Range{From: from, To: from + len(l)}})
	}
	return list
}

// plainDamage is how many tokens are kept ahead and behind.
func plainDamage(old, now []api.Token) (int, int) {
	ahead := min(len(old), len(now))
	for !slices.Equal(old[:ahead], now[:ahead]) {
		ahead--
	}
	old, now = old[ahead:], now[ahead:]
	behind := min(len(old), len(now))
	for !slices.Equal(old[len(old)-behind:], now[len(now)-behind:]) {
		behind--
	}
	return ahead, behind
}

// twins are subtrees of the old and the new tree that are the same one.
type twins struct{ old, now subtree }

// allKept are all subtrees that are kept, also within others.
func allKept(old, now api.Tree) []twins {
	oldTokens, _ := tree.Tokens(old)
	nowTokens, _ := tree.Tokens(now)
	ahead, behind := plainDamage(oldTokens, nowTokens)
	var list []twins
	for _, a := range subtrees(now) {
		for _, b := range subtrees(old) {
			isAhead := a.tokens.To <= ahead && a.tokens == b.tokens
			fromEnd := func(r api.Range, n int) api.Range { return api.Range{From: n - r.From, To: n - r.To} }
			isBehind := a.tokens.From >= len(nowTokens)-behind && fromEnd(a.tokens, len(nowTokens)) == fromEnd(b.tokens, len(oldTokens))
			some := a.tokens.From < a.tokens.To
			if some && (isAhead || isBehind) && dump(a.tree) == dump(b.tree) {
				list = append(list, twins{b, a})
			}
		}
	}
	return list
}

func dump(x api.Tree) string {
	s, _ := tree.Dump(x)
	return s
}

// goesOn reports whether a path is another one, or goes on from it.
func goesOn(path, from []int) bool {
	return len(path) >= len(from) && slices.Equal(path[:len(from)], from)
}

// withinOne reports whether a path of the new tree goes on from that of a subtree that is kept; strictly if it must not be its own.
func withinOne(list []twins, path []int, strictly bool) bool {
	return slices.ContainsFunc(list, func(k twins) bool {
		return goesOn(path, k.now.path) && !(strictly && len(path) == len(k.now.path))
	})
}

// checkKept compares all functions of P7.3 with the definitions.
func checkKept(t *testing.T, g api.Grammar, old, now api.Tree) {
	t.Helper()
	list := allKept(old, now)
	var kept []api.Kept
	share := 0
	for _, k := range list {
		if withinOne(list, k.now.path, true) {
			continue
		}
		kept = append(kept, api.Kept{Old: k.old.path, New: k.now.path, Tokens: k.now.tokens})
		if k.now.tree.Rule != -1 {
			share += k.now.tokens.To - k.now.tokens.From
		}
	}
	var changed [][]int
	for _, s := range subtrees(now) {
		if s.tree.Rule != -1 && !withinOne(list, s.path, false) {
			changed = append(changed, s.path)
		}
	}
	l, _ := tree.Tokens(now)
	gotKept, err := reuse.Kept(g, old, l)
	is(t, []any{"Kept", gotKept, err}, []any{"Kept", kept, api.OK})
	checkOrder(t, gotKept)
	f, err := reuse.Share(g, old, l)
	is(t, []any{"Share", f.Num * len(l), err}, []any{"Share", f.Den * share, api.OK})
	is(t, f, lowest(share, len(l)))
	gotChanged, err := reuse.Changed(g, old, l)
	is(t, []any{"Changed", gotChanged, err}, []any{"Changed", changed, api.OK})
	for _, s := range subtrees(old) {
		path, ok, err := reuse.Moved(g, old, l, s.path)
		wantPath, want := movedBy(list, s.path)
		is(t, []any{"Moved", s.path, path, ok, err}, []any{"Moved", s.path, wantPath, want, api.OK})
	}
}

// lowest is a fraction in lowest terms.
func lowest(num, den int) api.Fraction {
	for d := den; d > 1; d-- {
		if num%d == 0 && den%d == 0 {
			return api.Fraction{Num: num / d, Den: den / d}
		}
	}
	return api.Fraction{Num: num, Den: max(den, 1)}
}

// movedBy is where a subtree of the old tree at a path stands in the new one.
func movedBy(list []twins, path []int) ([]int, bool) {
	for _, k := range list {
		if goesOn(path, k.old.path) {
			return slices.Concat(k.now.path, path[len(k.old.path):]), true
		}
	}
	return nil, false
}

// checkOrder asks whether what is kept does not overlap.
func checkOrder(t *testing.T, kept []api.Kept) {
	t.Helper()
	for i, k := range kept {
		is(t, k.Tokens.From < k.Tokens.To, true)
		if i > 0 {
			is(t, kept[i-1].Tokens.To <= k.Tokens.From, true)
		}
	}
}

// P7.1 to P7.3: what is kept is what the definitions say, of old trees that the parser has made and of others.
func TestRandomKept(t *testing.T) {
	met := map[string]int{}
	for most := range 3 {
		eachGrammar(t, 150, most, func(r *rand.Rand, g api.Grammar, words [][]string) {
			for range 10 {
				old := randomOld(r, g, words)
				now, at, err := reuse.Again(g, old, randomTokens(r, words[r.IntN(len(words))]))
				is(t, []any{at, err}, []any{0, api.OK})
				checkKept(t, g, old, now)
				for _, k := range allKept(old, now) {
					met[fmt.Sprint(len(k.old.path) > 0, len(k.now.path) > 0, k.now.tree.Rule == -1, slices.Equal(k.old.path, k.now.path))]++
				}
			}
		})
	}
	for _, key := range []string{"false false false true", "false true false false", "true false false false", "true true false true", "true true false false", "true true true false"} {
		if met[key] < 50 {
			t.Errorf("%s: %d times", key, met[key])
		}
	}
}

// P7.1: damage of random tokens.
func TestRandomDamage(t *testing.T) {
	r := rand.New(rand.NewPCG(71, 1))
	random := func() []api.Token {
		var word []string
		for range r.IntN(7) {
			word = append(word, []string{"a", "b"}[r.IntN(2)])
		}
		return randomTokens(r, word)
	}
	for range 5_000 {
		old, now := random(), random()
		ahead, behind := plainDamage(old, now)
		before, after, err := reuse.Damage(old, now)
		want := []any{api.Range{From: ahead, To: len(old) - behind}, api.Range{From: ahead, To: len(now) - behind}, api.OK}
		is(t, []any{before, after, err}, want)
	}
}

// keptTokens are how many tokens are kept, and how many of them by nodes.
func keptTokens(g api.Grammar, old api.Tree, now []api.Token) (int, int) {
	kept, _ := reuse.Kept(g, old, now)
	x, _, _ := reuse.Again(g, old, now)
	tokens, byNodes := 0, 0
	for _, k := range kept {
		n := k.Tokens.To - k.Tokens.From
		tokens += n
		if part, _ := tree.Part(x, k.New); part.Rule != -1 {
			byNodes += n
		}
	}
	return tokens, byNodes
}

// Chapter 7, "What follows": without damage all is kept; no token that is damaged is kept, and all others are; the same damage backwards keeps as many.
func TestRandomBackwards(t *testing.T) {
	eachGrammar(t, 150, 1, func(r *rand.Rand, g api.Grammar, words [][]string) {
		for range 10 {
			l, m := randomTokens(r, words[r.IntN(len(words))]), randomTokens(r, words[r.IntN(len(words))])
			x, _, _ := parse.Parse(g, l)
			y, _, _ := parse.Parse(g, m)
			ahead, behind := plainDamage(l, m)
			tokens, byNodes := keptTokens(g, x, m)
			is(t, tokens, ahead+behind)
			back, backByNodes := keptTokens(g, y, l)
			is(t, []int{back, backByNodes}, []int{tokens, byNodes})
			if reflect.DeepEqual(l, m) && len(l) > 0 {
				kept, _ := reuse.Kept(g, x, m)
				is(t, kept, []api.Kept{{Tokens: api.Range{To: len(l)}}})
			}
		}
	})
}

// P7.4: which nodes are fragile, by the definition.
func TestRandomFragile(t *testing.T) {
	eachGrammar(t, 150, 1, func(r *rand.Rand, g api.Grammar, words [][]string) {
		x := randomOld(r, g, words)
		l, _ := tree.Tokens(x)
		for at := range len(l) + 1 {
			var paths [][]int
			for _, s := range subtrees(x) {
				spans := func(i int) bool { return s.tokens.From <= i && i < s.tokens.To }
				none := s.tokens.From == s.tokens.To
				if s.tree.Rule != -1 && (none || spans(at) || spans(at-1) || s.tokens.To == at) {
					paths = append(paths, s.path)
				}
			}
			got, err := reuse.Fragile(g, x, at)
			is(t, []any{at, got, err}, []any{at, paths, api.OK})
		}
		for _, at := range []int{-1, len(l) + 1} {
			_, err := reuse.Fragile(g, x, at)
			is(t, err, api.ErrArg)
		}
	})
}

// reducedIn are the states in which the nodes of a word are reduced, in this order.
func reducedIn(g api.Grammar, word []string) []int {
	var list []int
	stack := []int{0}
	steps, _ := parse.Steps(g, word)
	for _, s := range steps {
		if s.Rule >= 0 {
			list = append(list, stack[len(stack)-1])
			stack = stack[:len(stack)-len(g.Rules[s.Rule].Right)]
		}
		stack = append(stack, s.State)
	}
	return list
}

// byReduces are the nodes of a tree in the order in which they are reduced.
func byReduces(list []subtree, x api.Tree, path []int) []subtree {
	for i, kid := range x.Kids {
		list = byReduces(list, kid, append(slices.Clone(path), i))
	}
	if x.Rule != -1 {
		l, _ := tree.Tokens(x)
		list = append(list, subtree{path, x, api.Range{To: len(l)}})
	}
	return list
}

// done is what is done in a state if a kind, or the end, comes: a rule, -2 for a shift, -3 for nothing.
func done(s api.State, ahead string) int {
	for _, x := range s.Moves {
		if x.Symbol == ahead {
			return -2
		}
	}
	for _, x := range s.Reduces {
		if x.Ahead == ahead {
			return x.Rule
		}
	}
	return -3
}

// P7.4: which nodes are safe, by the steps of the parser. For other trees with the same tokens there is ErrState.
func TestRandomSafe(t *testing.T) {
	safe, unsafe, other := 0, 0, 0
	for most := range 3 {
		eachGrammar(t, 150, most, func(r *rand.Rand, g api.Grammar, words [][]string) {
			states, _ := table.Make(g, api.TableFull)
			for _, word := range words {
				x, _, _ := parse.Parse(g, randomTokens(r, word))
				in := reducedIn(g, word)
				var paths [][]int
				for i, s := range byReduces(nil, x, nil) {
					always := true
					for _, ahead := range append(slices.Clone(g.Kinds), "") {
						rule := done(states[in[i]], ahead)
						always = always && (rule == -3 || rule == s.tree.Rule)
					}
					if s.tokens.To >= 2 && always {
						safe++
						paths = append(paths, s.path)
					} else if s.tokens.To >= 2 {
						unsafe++
					}
				}
				slices.SortFunc(paths, slices.Compare)
				got, err := reuse.Safe(g, x)
				is(t, []any{word, got, err}, []any{word, paths, api.OK})
			}
			x := randomOld(r, g, words)
			l, _ := tree.Tokens(x)
			y, _, want := parse.Parse(g, l)
			if want == api.OK && dump(x) != dump(y) {
				want = api.ErrState
				other++
			}
			_, err := reuse.Safe(g, x)
			is(t, err, want)
		})
	}
	if safe < 500 || unsafe < 100 || other < 10 {
		t.Errorf("only %d safe, %d not, %d other trees", safe, unsafe, other)
	}
}
