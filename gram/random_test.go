package gram_test

import (
	"fmt"
	"math/rand/v2"
	"slices"
	"sort"
	"strings"
	"testing"

	"hedgelayer/api"
	"hedgelayer/gram"
)

// These tests compare the functions with plain ways to find the same, in many small grammars.

// randomGrammar has at most three kinds and four Lefts; about half of all such grammars are right.
func randomGrammar(r *rand.Rand) api.Grammar {
	g := api.Grammar{Kinds: []string{"a", "b", "c"}[:1+r.IntN(3)], Start: "s"}
	lefts := []string{"s", "t", "u", "v"}[:1+r.IntN(4)]
	symbols := append(slices.Clone(lefts), g.Kinds...)
	for range len(lefts) + r.IntN(5) {
		rule := api.Rule{Left: lefts[r.IntN(len(lefts))]}
		for range r.IntN(4) {
			rule.Right = append(rule.Right, symbols[r.IntN(len(symbols))])
		}
		g.Rules = append(g.Rules, rule)
	}
	return g
}

// eachGrammar calls test with many right grammars.
func eachGrammar(t *testing.T, test func(g api.Grammar) bool) {
	t.Helper()
	r := rand.New(rand.NewPCG(1, 2))
	for count := 0; count < 1500; {
		g := randomGrammar(r)
		if gram.Check(g) != api.OK {
			continue
		}
		count++
		if !test(g) {
			s, _ := gram.Text(g)
			t.Fatalf("of the grammar\n%s", s)
		}
	}
}

// same compares results; it says what differs.
func same(t *testing.T, what string, got, want any) bool {
	t.Helper()
	if fmt.Sprint(got) != fmt.Sprint(want) {
		t.Errorf("%s: got %v, want %v", what, got, want)
		return false
	}
	return true
}

// languages are the words with at most most tokens of all symbols, as strings: here kinds have one letter.
func languages(g api.Grammar, most int) map[string]map[string]bool {
	all := map[string]map[string]bool{}
	for _, kind := range g.Kinds {
		all[kind] = map[string]bool{kind: true}
	}
	for _, r := range g.Rules {
		all[r.Left] = map[string]bool{}
	}
	for before := -1; before != size(all); {
		before = size(all)
		for _, r := range g.Rules {
			for word := range chains(all, r.Right, most) {
				all[r.Left][word] = true
			}
		}
	}
	return all
}

func size(all map[string]map[string]bool) int {
	n := 0
	for _, words := range all {
		n += len(words)
	}
	return n
}

func chains(all map[string]map[string]bool, list []string, most int) map[string]bool {
	words := map[string]bool{"": true}
	for _, symbol := range list {
		longer := map[string]bool{}
		for word := range words {
			for more := range all[symbol] {
				if len(word)+len(more) <= most {
					longer[word+more] = true
				}
			}
		}
		words = longer
	}
	return words
}

// ordered are words by their numbers of tokens, then kind by kind.
func ordered(words map[string]bool) []string {
	var list []string
	for word := range words {
		list = append(list, word)
	}
	sort.Slice(list, func(i, j int) bool {
		if len(list[i]) != len(list[j]) {
			return len(list[i]) < len(list[j])
		}
		return list[i] < list[j]
	})
	return list
}

// allWords are all words of kinds with at most most tokens.
func allWords(kinds []string, most int) []string {
	list := []string{""}
	for from := 0; most > 0; most-- {
		to := len(list)
		for _, word := range list[from:to] {
			for _, kind := range kinds {
				list = append(list, word+kind)
			}
		}
		from = to
	}
	return list
}

func letters(word string) []string { return strings.Split(word, "")[:len(word)] }

func joinedWords(words [][]string) []string {
	var list []string
	for _, word := range words {
		list = append(list, strings.Join(word, ""))
	}
	return list
}

// P1.5: Words and Derives agree with all words; P1.4: Nullable, too.
func TestLanguages(t *testing.T) {
	eachGrammar(t, func(g api.Grammar) bool {
		all := languages(g, 4)
		ok := true
		for most := range 5 {
			words, err := gram.Words(g, most)
			want := ordered(chains(all, []string{g.Start}, most))
			ok = ok && same(t, "Words", []any{joinedWords(words), err}, []any{want, api.OK})
		}
		for _, word := range allWords(g.Kinds, 4) {
			got, err := gram.Derives(g, letters(word))
			ok = ok && same(t, "Derives "+word, []any{got, err}, []any{all[g.Start][word], api.OK})
		}
		lefts, _ := gram.Lefts(g)
		var nullable []string
		for _, left := range lefts {
			if all[left][""] {
				nullable = append(nullable, left)
			}
		}
		got, err := gram.Nullable(g)
		return ok && same(t, "Nullable", []any{got, err}, []any{nullable, api.OK})
	})
}

// fruitful reports whether a symbol has a tree with at most so many Lefts one below the other.
func fruitful(g api.Grammar, symbol string, deep int) bool {
	if slices.Contains(g.Kinds, symbol) {
		return true
	}
	for _, r := range g.Rules {
		bad := func(symbol string) bool { return !fruitful(g, symbol, deep-1) }
		if deep > 0 && r.Left == symbol && !slices.ContainsFunc(r.Right, bad) {
			return true
		}
	}
	return false
}

// P1.4: Barren; P1.5: Shortest is the first of all words.
func TestShortestWords(t *testing.T) {
	eachGrammar(t, func(g api.Grammar) bool {
		all := languages(g, 5)
		lefts, _ := gram.Lefts(g)
		var barren []string
		for _, left := range lefts {
			word, err := gram.Shortest(g, left)
			words := ordered(all[left])
			if !fruitful(g, left, len(lefts)) {
				barren = append(barren, left)
				if !same(t, "Shortest "+left, []any{word, err}, []any{[]string{}, api.ErrState}) {
					return false
				}
			} else if len(words) > 0 && !same(t, "Shortest "+left, []any{strings.Join(word, ""), err}, []any{words[0], api.OK}) {
				return false
			}
		}
		got, err := gram.Barren(g)
		return same(t, "Barren", []any{got, err}, []any{barren, api.OK})
	})
}

// moves are pairs of states: a list of symbols leads from the one to the other.
type moves map[[2]int]bool

// listMoves are, for each symbol, the moves of all lists that it derives, if those of single symbols are told.
func listMoves(g api.Grammar, of func(symbol string) moves) map[string]moves {
	all := map[string]moves{}
	for _, kind := range g.Kinds {
		all[kind] = of(kind)
	}
	for _, r := range g.Rules {
		all[r.Left] = of(r.Left)
	}
	for changed := true; changed; {
		changed = false
		for _, r := range g.Rules {
			for move := range along(all, r.Right) {
				changed = changed || !all[r.Left][move]
				all[r.Left][move] = true
			}
		}
	}
	return all
}

// along are the moves of a list; of the empty one, that each state stays.
func along(all map[string]moves, list []string) moves {
	at := moves{{0, 0}: true, {1, 1}: true, {2, 2}: true}
	for _, symbol := range list {
		next := moves{}
		for a := range at {
			for b := range all[symbol] {
				if a[1] == b[0] {
					next[[2]int{a[0], b[1]}] = true
				}
			}
		}
		at = next
	}
	return at
}

// begins reports whether a Left derives a list that begins with a kind.
func begins(g api.Grammar, left, kind string) bool {
	return listMoves(g, func(symbol string) moves {
		return moves{{2, 2}: true, {0, 2}: symbol == kind}.only()
	})[left][[2]int{0, 2}]
}

// stands reports whether Start derives a list in which a symbol of whom behind is true stands behind a Left, and whether one ends with the Left.
func stands(g api.Grammar, left string, behind func(symbol string) bool) (bool, bool) {
	m := listMoves(g, func(symbol string) moves {
		return moves{{0, 0}: true, {0, 1}: symbol == left, {1, 2}: behind(symbol), {2, 2}: true}.only()
	})[g.Start]
	return m[[2]int{0, 2}], m[[2]int{0, 1}]
}

// only are the moves that are true.
func (m moves) only() moves {
	left := moves{}
	for move, ok := range m {
		if ok {
			left[move] = true
		}
	}
	return left
}

// loops reports whether a Left derives itself in at least one replacement: capitals stand for Lefts that are not replaced.
func loops(g api.Grammar, left string) bool {
	h := api.Grammar{Kinds: slices.Clone(g.Kinds), Rules: slices.Clone(g.Rules)}
	for _, r := range g.Rules {
		h.Kinds = append(h.Kinds, strings.ToUpper(r.Left))
		h.Rules = append(h.Rules, api.Rule{Left: r.Left, Right: []string{strings.ToUpper(r.Left)}})
	}
	all := languages(h, 1)
	return slices.ContainsFunc(g.Rules, func(r api.Rule) bool {
		return r.Left == left && chains(all, r.Right, 1)[strings.ToUpper(left)]
	})
}

// P1.4: Loops, Unreached, First and Follow agree with the lists that are derived.
func TestDerivedLists(t *testing.T) {
	eachGrammar(t, func(g api.Grammar) bool {
		lefts, _ := gram.Lefts(g)
		var looping, unreached []string
		ok := true
		for _, left := range lefts {
			first, follow := map[string]bool{}, map[string]bool{}
			for _, kind := range g.Kinds {
				first[kind] = begins(g, left, kind)
				follow[kind], _ = stands(g, left, func(symbol string) bool { return symbol == kind })
			}
			got, _, err := gram.First(g, []string{left})
			ok = ok && same(t, "First "+left, []any{got, err}, []any{ordered(those(first)), api.OK})
			inside, end := stands(g, left, func(string) bool { return true })
			got, atEnd, err := gram.Follow(g, left)
			ok = ok && same(t, "Follow "+left, []any{got, atEnd, err}, []any{ordered(those(follow)), end, api.OK})
			if !inside && !end {
				unreached = append(unreached, left)
			}
			if loops(g, left) {
				looping = append(looping, left)
			}
		}
		got, err := gram.Loops(g)
		ok = ok && same(t, "Loops", []any{got, err}, []any{looping, api.OK})
		got, err = gram.Unreached(g)
		return ok && same(t, "Unreached", []any{got, err}, []any{unreached, api.OK})
	})
}

// those are the keys that are true.
func those(all map[string]bool) map[string]bool {
	some := map[string]bool{}
	for key, ok := range all {
		if ok {
			some[key] = true
		}
	}
	return some
}

// P1.4: First of a list is made of those of its symbols.
func TestFirstOfLists(t *testing.T) {
	r := rand.New(rand.NewPCG(3, 4))
	eachGrammar(t, func(g api.Grammar) bool {
		lefts, _ := gram.Lefts(g)
		symbols := append(slices.Clone(g.Kinds), lefts...)
		var list []string
		for range r.IntN(5) {
			list = append(list, symbols[r.IntN(len(symbols))])
		}
		want, all := map[string]bool{}, true
		for _, symbol := range list {
			first, empty, _ := gram.First(g, []string{symbol})
			for _, kind := range first {
				want[kind] = want[kind] || all
			}
			all = all && empty
		}
		got, empty, err := gram.First(g, list)
		return same(t, fmt.Sprint("First ", list), []any{got, empty, err}, []any{ordered(those(want)), all, api.OK})
	})
}

// derivations counts the leftmost derivations of a word from a list: there are as many as trees. The grammar has no loops.
func derivations(g api.Grammar, least map[string]int, list []string, word string) int {
	long := 0
	for _, symbol := range list {
		long += least[symbol]
	}
	if long > len(word) {
		return 0
	}
	if len(list) == 0 {
		if word == "" {
			return 1
		}
		return 0
	}
	if slices.Contains(g.Kinds, list[0]) {
		if !strings.HasPrefix(word, list[0]) {
			return 0
		}
		return derivations(g, least, list[1:], word[1:])
	}
	n := 0
	for _, r := range g.Rules {
		if r.Left == list[0] {
			n += derivations(g, least, slices.Concat(r.Right, list[1:]), word)
		}
	}
	return n
}

// P1.5: Trees counts derivations; P1.4: a trimmed grammar has the same words with the same trees, and nothing that is in no word.
func TestTreesAndTrimmed(t *testing.T) {
	counted := 0
	eachGrammar(t, func(g api.Grammar) bool {
		words, _ := gram.Words(g, 5)
		h, err := gram.Trimmed(g)
		if err != api.OK {
			_, state := gram.Shortest(g, g.Start)
			return same(t, "Trimmed", []any{err, state, len(words)}, []any{api.ErrNone, api.ErrState, 0})
		}
		barren, _ := gram.Barren(h)
		unreached, _ := gram.Unreached(h)
		trimmed, _ := gram.Words(h, 5)
		if !same(t, "Trimmed", []any{barren, unreached, trimmed, h.Kinds, gram.Check(h)}, []any{[]string{}, []string{}, words, g.Kinds, api.OK}) {
			return false
		}
		loops, _ := gram.Loops(h)
		if len(loops) > 0 {
			n, err := gram.Trees(g, nil)
			return same(t, "Trees", []any{n, err}, []any{0, api.ErrState})
		}
		counted++
		least := map[string]int{}
		lefts, _ := gram.Lefts(h)
		for _, symbol := range append(lefts, h.Kinds...) {
			word, _ := gram.Shortest(h, symbol)
			least[symbol] = len(word)
		}
		for _, word := range allWords(g.Kinds, 4) {
			a, errA := gram.Trees(g, letters(word))
			b, errB := gram.Trees(h, letters(word))
			want := derivations(h, least, []string{h.Start}, word)
			if !same(t, "Trees "+word, []any{a, errA, b, errB}, []any{want, api.OK, want, api.OK}) {
				return false
			}
		}
		return true
	})
	if counted < 200 {
		t.Errorf("only %d grammars without loops", counted)
	}
}

// P1.4: a word begins with a kind of First of Start.
func TestFirstOfWords(t *testing.T) {
	eachGrammar(t, func(g api.Grammar) bool {
		h, err := gram.Trimmed(g)
		if err != api.OK {
			return true
		}
		words, _ := gram.Words(h, 8)
		begin := map[string]bool{}
		for _, word := range words {
			if len(word) > 0 {
				begin[word[0]] = true
			}
		}
		first, _, _ := gram.First(h, []string{h.Start})
		for _, kind := range ordered(begin) {
			if !slices.Contains(first, kind) {
				return same(t, "First of Start", first, ordered(begin))
			}
		}
		return true
	})
}
