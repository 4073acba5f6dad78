package repair_test

import (
	"cmp"
	"fmt"
	"math/rand/v2"
	"slices"
	"testing"

	"hedgelayer/api"
	"hedgelayer/gram"
	"hedgelayer/repair"
)

// These tests compare the functions with plain ways to find the same, in many small grammars.

// randomGrammar has at most three kinds and four Lefts, and levels.
func randomGrammar(r *rand.Rand) api.Grammar {
	g := api.Grammar{Kinds: []string{"a", "m", "z"}[:1+r.IntN(3)], Start: "s"}
	lefts := []string{"s", "b", "n", "u"}[:1+r.IntN(4)]
	symbols := append(slices.Clone(lefts), g.Kinds...)
	for range len(lefts) + r.IntN(5) {
		rule := api.Rule{Left: lefts[r.IntN(len(lefts))], Level: r.IntN(3)}
		for range r.IntN(5) {
			rule.Right = append(rule.Right, symbols[r.IntN(len(symbols))])
		}
		g.Rules = append(g.Rules, rule)
	}
	return g
}

// eachGrammar calls test with many grammars that have words.
func eachGrammar(t *testing.T, count int, test func(r *rand.Rand, g api.Grammar)) {
	t.Helper()
	r := rand.New(rand.NewPCG(9, 1))
	for count > 0 {
		g := randomGrammar(r)
		if gram.Check(g) != api.OK {
			continue
		}
		if _, err := gram.Shortest(g, "s"); err != api.OK {
			continue
		}
		count--
		test(r, g)
		if t.Failed() {
			s, _ := gram.Text(g)
			t.Fatalf("of the grammar\n%s", s)
		}
	}
}

// randomWord has at most most tokens.
func randomWord(r *rand.Rand, kinds []string, most int) []string {
	var word []string
	for range r.IntN(most + 1) {
		word = append(word, kinds[r.IntN(len(kinds))])
	}
	return word
}

func randomPrices(r *rand.Rand) api.Prices {
	return api.Prices{Insert: 1 + r.IntN(3), Delete: 1 + r.IntN(3), Replace: 1 + r.IntN(5)}
}

// shortWords are the words of a language with at most most tokens, most being the second result.
func shortWords(g api.Grammar) ([][]string, int) {
	for most := api.MaxShort; ; most-- {
		words, err := gram.Words(g, most)
		if err == api.OK {
			return words, most
		}
	}
}

// lists are all lists of fixes of a word, from a token on, that make it another one and cost at most so much.
func lists(word, other []string, at int, p api.Prices, most int) [][]api.Fix {
	if most < 0 {
		return nil
	}
	var all [][]api.Fix
	with := func(f api.Fix, rest [][]api.Fix) {
		for _, l := range rest {
			all = append(all, append([]api.Fix{f}, l...))
		}
	}
	if len(other) > 0 {
		with(api.Fix{At: at, What: api.FixInsert, Kind: other[0]}, lists(word, other[1:], at, p, most-p.Insert))
	}
	return append(all, atToken(word, other, at, p, most)...)
}

// atToken are those of these lists that do not begin with an insertion.
func atToken(word, other []string, at int, p api.Prices, most int) [][]api.Fix {
	if at == len(word) {
		if len(other) > 0 {
			return nil
		}
		return [][]api.Fix{nil}
	}
	var all [][]api.Fix
	for _, l := range lists(word, other, at+1, p, most-p.Delete) {
		all = append(all, append([]api.Fix{{At: at, What: api.FixDelete}}, l...))
	}
	if len(other) == 0 {
		return all
	}
	if word[at] == other[0] {
		return append(all, lists(word, other[1:], at+1, p, most)...)
	}
	for _, l := range lists(word, other[1:], at+1, p, most-p.Replace) {
		all = append(all, append([]api.Fix{{At: at, What: api.FixReplace, Kind: other[0]}}, l...))
	}
	return all
}

// far is the least cost from a word to another one.
func far(a, b []string, p api.Prices) int {
	switch {
	case len(a) == 0:
		return len(b) * p.Insert
	case len(b) == 0:
		return len(a) * p.Delete
	case a[0] == b[0]:
		return min(far(a[1:], b[1:], p), far(a[1:], b, p)+p.Delete, far(a, b[1:], p)+p.Insert)
	}
	return min(far(a[1:], b[1:], p)+p.Replace, far(a[1:], b, p)+p.Delete, far(a, b[1:], p)+p.Insert)
}

// before says which list is told before another one.
func before(a, b []api.Fix) int {
	return cmp.Or(cmp.Compare(len(a), len(b)), slices.CompareFunc(a, b, func(x, y api.Fix) int {
		return cmp.Or(cmp.Compare(x.At, y.At), cmp.Compare(x.What, y.What), cmp.Compare(x.Kind, y.Kind))
	}))
}

// nearest are the words with the least cost, and this cost.
func nearest(words [][]string, word []string, p api.Prices) ([][]string, int) {
	var near [][]string
	least := -1
	for _, other := range words {
		cost := far(word, other, p)
		if least < 0 || cost < least {
			least, near = cost, nil
		}
		if cost == least {
			near = append(near, other)
		}
	}
	return near, least
}

// P9.1, P9.2: cost, words, least fixes and what is kept, from all lists of fixes to all words.
func TestNearest(t *testing.T) {
	tried, several, kept := 0, 0, 0
	eachGrammar(t, 6_000, func(r *rand.Rand, g api.Grammar) {
		words, most := shortWords(g)
		word, p := randomWord(r, g.Kinds, 4), randomPrices(r)
		near, least := nearest(words, word, p)
		if least < 0 || (most+1-len(word))*p.Insert <= least {
			return // a longer word could be as near
		}
		tried++
		cost, err := repair.Distance(g, word, p)
		is(t, []any{word, p, cost, err}, []any{word, p, least, api.OK})
		got, err := repair.Repaired(g, word, p)
		is(t, []any{word, p, got, err}, []any{word, p, near, api.OK})
		var all [][]api.Fix
		for _, other := range near {
			all = append(all, lists(word, other, 0, p, least)...)
		}
		l, cost, err := repair.Repair(g, word, p)
		is(t, []any{word, p, l, cost, err}, []any{word, p, slices.MinFunc(all, before), least, api.OK})
		stay := 0
		for _, l := range all {
			first := len(word)
			if len(l) > 0 {
				first = l[0].At
			}
			stay = max(stay, first)
			fixed, err := repair.Apply(g, word, l)
			cost, _ := repair.Cost(l, p)
			is(t, []any{slices.ContainsFunc(near, func(x []string) bool { return slices.Equal(x, fixed) }), cost, err}, []any{true, least, api.OK})
		}
		n, err := repair.Kept(g, word, p)
		is(t, []any{word, p, n, err}, []any{word, p, stay, api.OK})
		if len(all) > 1 {
			several++
		}
		if least > 0 && stay > 0 {
			kept++
		}
	})
	if tried < 3_000 || several < 1_000 || kept < 500 {
		t.Errorf("only %d, %d, %d", tried, several, kept)
	}
}

// begun is a grammar of all beginnings of the words of another one, which must be trimmed.
func begun(g api.Grammar) api.Grammar {
	b := api.Grammar{Kinds: g.Kinds, Start: "begun_" + g.Start, Rules: slices.Clone(g.Rules)}
	for _, kind := range g.Kinds {
		b.Rules = append(b.Rules, api.Rule{Left: "begun_" + kind}, api.Rule{Left: "begun_" + kind, Right: []string{kind}})
	}
	for _, r := range g.Rules {
		left := "begun_" + r.Left
		b.Rules = append(b.Rules, api.Rule{Left: left})
		for i, symbol := range r.Right {
			b.Rules = append(b.Rules, api.Rule{Left: left, Right: append(slices.Clone(r.Right[:i]), "begun_"+symbol)})
		}
	}
	b.Rules = once(b.Rules)
	return b
}

// once are rules without those that an earlier one is equal to.
func once(rules []api.Rule) []api.Rule {
	known := map[string]bool{}
	return slices.DeleteFunc(rules, func(r api.Rule) bool {
		s := fmt.Sprint(r.Left, r.Right)
		again := known[s]
		known[s] = true
		return again
	})
}

// thinned is a grammar of all words that come out of those of another one if tokens are taken away.
func thinned(g api.Grammar) api.Grammar {
	b := api.Grammar{Kinds: g.Kinds, Start: g.Start}
	for _, kind := range g.Kinds {
		b.Rules = append(b.Rules, api.Rule{Left: "maybe_" + kind}, api.Rule{Left: "maybe_" + kind, Right: []string{kind}})
	}
	for _, r := range g.Rules {
		var right []string
		for _, symbol := range r.Right {
			if slices.Contains(g.Kinds, symbol) {
				symbol = "maybe_" + symbol
			}
			right = append(right, symbol)
		}
		b.Rules = append(b.Rules, api.Rule{Left: r.Left, Right: right})
	}
	return b
}

// firstOf is the first word that fits, in the order of Words; false if there is none.
func firstOf(words [][]string, fits func(word []string) bool) ([]string, bool) {
	i := slices.IndexFunc(words, fits)
	if i < 0 {
		return nil, false
	}
	return words[i], true
}

func begins(word, begin []string) bool {
	return len(word) >= len(begin) && slices.Equal(word[:len(begin)], begin)
}

// stands reports whether the tokens of a word stand in another one in their order.
func stands(word, other []string) bool {
	for _, kind := range other {
		if len(word) > 0 && word[0] == kind {
			word = word[1:]
		}
	}
	return len(word) == 0
}

// P9.3: Finish, from all words, and from a grammar of what words begin with.
func TestFinishOfAll(t *testing.T) {
	done, wrong, long := 0, 0, 0
	eachGrammar(t, 3_000, func(r *rand.Rand, g api.Grammar) {
		words, most := shortWords(g)
		trimmed, _ := gram.Trimmed(g)
		for range 3 {
			word := randomWord(r, g.Kinds, 6)
			rest, err := repair.Finish(g, word)
			ok, _ := gram.Derives(begun(trimmed), word)
			is(t, []any{word, err == api.OK}, []any{word, ok})
			want, ok := firstOf(words, func(x []string) bool { return begins(x, word) })
			switch {
			case ok:
				is(t, []any{word, rest, err}, []any{word, want[len(word):], api.OK})
				done++
			case err == api.OK:
				whole := slices.Concat(word, rest)
				in, _ := gram.Derives(g, whole)
				is(t, []any{word, len(whole) > most, in}, []any{word, true, true})
				long++
			default:
				is(t, []any{word, rest, err}, []any{word, []string{}, api.ErrRule})
				wrong++
			}
		}
	})
	if done < 1_000 || wrong < 1_000 || long < 20 {
		t.Errorf("only %d, %d, %d", done, wrong, long)
	}
}

// P9.3: Holes, from all words, and from a grammar of what is left of them.
func TestHolesOfAll(t *testing.T) {
	done, wrong, long := 0, 0, 0
	eachGrammar(t, 3_000, func(r *rand.Rand, g api.Grammar) {
		words, most := shortWords(g)
		for range 3 {
			word := randomWord(r, g.Kinds, 5)
			filled, more, err := repair.Holes(g, word)
			ok, _ := gram.Derives(thinned(g), word)
			is(t, []any{word, err == api.OK}, []any{word, ok})
			want, ok := firstOf(words, func(x []string) bool { return stands(word, x) })
			switch {
			case ok:
				is(t, []any{word, filled, more, err}, []any{word, want, len(want) - len(word), api.OK})
				done++
			case err == api.OK:
				in, _ := gram.Derives(g, filled)
				is(t, []any{word, len(filled) > most, in, more}, []any{word, true, true, len(filled) - len(word)})
				long++
			default:
				is(t, []any{word, filled, more, err}, []any{word, []string{}, 0, api.ErrRule})
				wrong++
			}
		}
	})
	if done < 1_000 || wrong < 1_000 || long < 20 {
		t.Errorf("only %d, %d, %d", done, wrong, long)
	}
}

// What follows from P9.2: what is repaired is in the language; the distance is 0 just for its words; a fix brings a word nearer by at most its price.
func TestWhatFollows(t *testing.T) {
	eachGrammar(t, 1_500, func(r *rand.Rand, g api.Grammar) {
		word, p := randomWord(r, g.Kinds, 12), randomPrices(r)
		l, cost, err := repair.Repair(g, word, p)
		is(t, err, api.OK)
		fixed, err := repair.Apply(g, word, l)
		is(t, err, api.OK)
		price, _ := repair.Cost(l, p)
		in, _ := gram.Derives(g, fixed)
		is(t, []any{word, price, in}, []any{word, cost, true})
		in, _ = gram.Derives(g, word)
		is(t, []any{word, in}, []any{word, cost == 0})
		for i, f := range l {
			rest := slices.Concat(l[:i], l[i+1:])
			behind, _ := repair.Apply(g, word, rest)
			cost, _ := repair.Distance(g, behind, p)
			price, _ := repair.Cost([]api.Fix{f}, p)
			is(t, []any{word, cost <= price}, []any{word, true}) // all others are made
			behind, _ = repair.Apply(g, word, l[i:i+1])
			rested, _ := repair.Cost(rest, p)
			cost, _ = repair.Distance(g, behind, p)
			is(t, []any{word, cost}, []any{word, rested})
		}
		f := randomFix(r, g, word)
		behind, err := repair.Apply(g, word, []api.Fix{f})
		if err == api.OK {
			price, _ = repair.Cost([]api.Fix{f}, p)
			next, _ := repair.Distance(g, behind, p)
			is(t, []any{word, f, cost <= price+next}, []any{word, f, true})
		}
		s, err := repair.Text(l)
		back, _, _ := repair.Read(s)
		is(t, []any{back, err}, []any{l, api.OK})
	})
}

func randomFix(r *rand.Rand, g api.Grammar, word []string) api.Fix {
	f := api.Fix{At: r.IntN(len(word) + 1), What: 1 + r.IntN(3)}
	if f.What != api.FixDelete {
		f.Kind = g.Kinds[r.IntN(len(g.Kinds))]
	}
	return f
}

// What follows from P9.2: Between is the distance to a language with one word alone, and keeps the triangle inequality.
func TestBetweenOfAll(t *testing.T) {
	r := rand.New(rand.NewPCG(9, 2))
	kinds := []string{"a", "b", "c"}
	for range 3_000 {
		a, b, c, p := randomWord(r, kinds, 5), randomWord(r, kinds, 5), randomWord(r, kinds, 5), randomPrices(r)
		ab, err := repair.Between(a, b, p)
		is(t, []any{a, b, p, ab, err}, []any{a, b, p, far(a, b, p), api.OK})
		alone, _ := repair.Distance(api.Grammar{Kinds: kinds, Start: "s", Rules: []api.Rule{{Left: "s", Right: b}}}, a, p)
		is(t, []any{a, b, p, ab}, []any{a, b, p, alone})
		ac, _ := repair.Between(a, c, p)
		cb, _ := repair.Between(c, b, p)
		is(t, []any{a, b, c, ab <= ac+cb}, []any{a, b, c, true})
	}
}

// What follows from P9.3: with great prices of deletion and replacement a repair inserts what Holes tells.
func TestHolesAreInserted(t *testing.T) {
	p := api.Prices{Insert: 1, Delete: 100, Replace: 100}
	filled := 0
	eachGrammar(t, 2_000, func(r *rand.Rand, g api.Grammar) {
		word := randomWord(r, g.Kinds, 10)
		_, more, err := repair.Holes(g, word)
		l, cost, repaired := repair.Repair(g, word, p)
		is(t, repaired, api.OK)
		if err != api.OK || more >= 100 {
			is(t, cost >= 100, true)
			return
		}
		filled++
		is(t, []any{word, cost, len(l)}, []any{word, more, more})
		is(t, slices.ContainsFunc(l, func(f api.Fix) bool { return f.What != api.FixInsert }), false)
	})
	if filled < 500 {
		t.Errorf("only %d", filled)
	}
}
