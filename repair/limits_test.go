package repair_test

import (
	"fmt"
	"slices"
	"strings"
	"testing"

	"hedgelayer/api"
	"hedgelayer/gram"
	"hedgelayer/repair"
)

// These tests try the bounds, just at them and just above, and large grammars.

// huge is a grammar with one word, of 20 times 20 times n tokens, and of more.
func huge(n, more int) api.Grammar {
	return api.Grammar{Kinds: []string{"a"}, Start: "s", Rules: []api.Rule{
		{Left: "s", Right: append([]string{"x"}, repeated("a", more)...)},
		{Left: "x", Right: repeated("y", 20)},
		{Left: "y", Right: repeated("z", 20)},
		{Left: "z", Right: repeated("a", n)},
	}}
}

// P9.2, P9.3: MaxTokens of the shortest word.
func TestShortestLimit(t *testing.T) {
	prices := api.Prices{Insert: 100, Delete: 100, Replace: 100}
	for _, word := range [][]string{nil, repeated("a", 40)} {
		n, err := repair.Distance(huge(5, 0), word, prices)
		is(t, []any{n, err}, []any{(2_000 - len(word)) * 100, api.OK})
		words, err := repair.Repaired(huge(5, 0), word, ones)
		is(t, []any{len(words), len(words[0]), err}, []any{1, 2_000, api.OK})
		n, err = repair.Kept(huge(5, 0), word, ones)
		is(t, []any{n, err}, []any{len(word), api.OK})
		_, _, err = repair.Repair(huge(5, 0), word, ones)
		is(t, err, api.ErrFull) // more than 80 fixes
		rest, err := repair.Finish(huge(5, 0), word)
		is(t, []any{len(rest), err}, []any{2_000 - len(word), api.OK})
		filled, n, err := repair.Holes(huge(5, 0), word)
		is(t, []any{len(filled), n, err}, []any{2_000, 2_000 - len(word), api.OK})
		_, err = repair.Distance(huge(5, 1), word, ones)
		is(t, err, api.ErrFull)
		_, err = repair.Finish(huge(5, 1), word)
		is(t, err, api.ErrFull)
		_, _, err = repair.Holes(huge(5, 1), word)
		is(t, err, api.ErrFull)
	}
}

// withB is a grammar with the word a, and with all words of another grammar, b being ahead of them.
func withB(g api.Grammar) api.Grammar {
	g.Kinds = []string{"a", "b"}
	g.Rules = append(g.Rules, api.Rule{Left: "start", Right: []string{"a"}}, api.Rule{Left: "start", Right: []string{"b", g.Start}})
	g.Start = "start"
	return g
}

// P9.3: MaxTokens of the results, the shortest word of the language being short.
func TestRestLimit(t *testing.T) {
	b := split("b")
	rest, err := repair.Finish(withB(huge(5, 0)), b)
	is(t, []any{len(rest), err}, []any{2_000, api.OK})
	rest, err = repair.Finish(withB(huge(5, 1)), b)
	is(t, []any{rest, err}, []any{[]string{}, api.ErrFull})
	rest, err = repair.Finish(withB(huge(5, 1)), split("b a"))
	is(t, []any{len(rest), err}, []any{2_000, api.OK})
	filled, n, err := repair.Holes(withB(huge(4, 19)), b)
	is(t, []any{len(filled), n, err}, []any{1_620, 1_619, api.OK})
	g := huge(5, 0)
	g.Rules[2].Right[0] = "w" // one token less each time
	g.Rules = append(g.Rules, api.Rule{Left: "w", Right: repeated("a", 4)})
	g.Rules[0].Right = append(g.Rules[0].Right, repeated("a", 19)...) // 1,999
	filled, n, err = repair.Holes(withB(g), b)
	is(t, []any{len(filled), n, err}, []any{2_000, 1_999, api.OK})
	filled, n, err = repair.Holes(withB(huge(5, 0)), b)
	is(t, []any{filled, n, err}, []any{[]string{}, 0, api.ErrFull})
}

// tower is a grammar whose only word has 20 to the power of 90 tokens.
func tower() api.Grammar {
	g := api.Grammar{Kinds: []string{"a"}, Start: "x00"}
	for i := range 90 {
		g.Rules = append(g.Rules, api.Rule{Left: fmt.Sprintf("x%02d", i), Right: repeated(fmt.Sprintf("x%02d", i+1), 20)})
	}
	g.Rules = append(g.Rules, api.Rule{Left: "x90", Right: []string{"a"}})
	return g
}

// P9.2, P9.3, Z6: lengths that no int has.
func TestTower(t *testing.T) {
	g := withB(tower())
	rest, err := repair.Finish(g, split("b"))
	is(t, []any{rest, err}, []any{[]string{}, api.ErrFull})
	rest, err = repair.Finish(g, split("b a a a"))
	is(t, []any{rest, err}, []any{[]string{}, api.ErrFull})
	_, err = repair.Finish(g, split("b a b"))
	is(t, err, api.ErrRule)
	filled, n, err := repair.Holes(g, split("a a"))
	is(t, []any{filled, n, err}, []any{[]string{}, 0, api.ErrFull})
	_, _, err = repair.Holes(g, split("a b"))
	is(t, err, api.ErrRule)
	l, n, err := repair.Repair(g, split("b b a a"), api.Prices{Insert: 1, Delete: 100, Replace: 100})
	is(t, []any{l, n, err}, []any{fixes("0 -, 1 -, 2 -"), 300, api.OK})
	words, err := repair.Repaired(g, repeated("b", 40), ones)
	is(t, []any{texts(words), err}, []any{"a", api.OK})
	_, err = repair.Distance(tower(), nil, ones)
	is(t, err, api.ErrFull)
}

// P9.2: 2 MaxRepair of the fixes of Repair.
func TestFixesLimit(t *testing.T) {
	cheap := api.Prices{Insert: 1, Delete: 1, Replace: 100}
	for n, want := range map[int]api.Errno{40: api.OK, 41: api.ErrFull} {
		g := read(t, "tokens a b\nstart s\ns = x x\nx ="+strings.Repeat(" b", 20)+"\n")
		if n == 41 {
			g.Rules[0].Right = split("x x b")
		}
		l, cost, err := repair.Repair(g, repeated("a", 40), cheap)
		is(t, []any{n, err}, []any{n, want})
		far, err := repair.Distance(g, repeated("a", 40), cheap)
		is(t, []any{far, err}, []any{40 + n, api.OK})
		if want == api.OK {
			fixed, err := repair.Apply(g, repeated("a", 40), l)
			is(t, []any{fixed, cost, err}, []any{repeated("b", 40), 80, api.OK})
			is(t, l[:41], append(inserts(40, "b"), api.Fix{What: api.FixDelete}))
		}
	}
	g := read(t, "tokens a\nstart s\ns = x x x x\nx ="+strings.Repeat(" a", 20)+"\n")
	l, cost, err := repair.Repair(g, nil, ones)
	is(t, []any{l, cost, err}, []any{inserts(80, "a"), 80, api.OK})
	g.Rules[0].Right = append(g.Rules[0].Right, "a")
	l, cost, err = repair.Repair(g, nil, ones)
	is(t, []any{l, cost, err}, []any{[]api.Fix{}, 0, api.ErrFull})
}

// P9.2: the greatest distance that there is.
func TestGreatestDistance(t *testing.T) {
	g := withB(huge(5, 0))
	g.Rules = slices.DeleteFunc(g.Rules, func(r api.Rule) bool { return r.Left == "start" && r.Right[0] == "a" })
	g.Rules[len(g.Rules)-1].Right = []string{"s"}
	g.Rules[len(g.Rules)-1].Left = "start"
	n, err := repair.Distance(g, repeated("b", 40), api.Prices{Insert: 100, Delete: 1, Replace: 100})
	is(t, []any{n, err}, []any{1_960*100 + 40*100, api.OK})
	n, err = repair.Distance(g, repeated("b", 40), api.Prices{Insert: 49, Delete: 50, Replace: 100})
	is(t, []any{n, err}, []any{2_000*49 + 40*50, api.OK})
}

// numbered are n kinds, rising.
func numbered(n int) []string {
	var list []string
	for i := range n {
		list = append(list, fmt.Sprintf("k%02d", i))
	}
	return list
}

// P9.2: 500 words of Repaired.
func TestRepairedLimit(t *testing.T) {
	g := api.Grammar{Kinds: numbered(50), Start: "s", Rules: []api.Rule{{Left: "s", Right: []string{"x", "y"}}, {Left: "s", Right: []string{"y", "x"}}}}
	for i, kind := range g.Kinds {
		left := "x"
		if i >= 25 {
			left = "y"
		}
		g.Rules = append(g.Rules, api.Rule{Left: left, Right: []string{kind}})
	}
	words, err := repair.Repaired(g, nil, ones)
	is(t, []any{len(words), err}, []any{0, api.ErrFull}) // 1,250
	g.Rules = slices.Delete(g.Rules, 1, 2)               // 625
	_, err = repair.Repaired(g, nil, ones)
	is(t, err, api.ErrFull)
	words, err = repair.Repaired(g, split("k00"), ones)
	is(t, []any{len(words), err}, []any{25, api.OK})
	g.Rules = slices.DeleteFunc(g.Rules, func(r api.Rule) bool { return r.Left == "y" && r.Right[0] >= "k45" })
	words, err = repair.Repaired(g, nil, ones) // 25 times 20
	is(t, []any{len(words), err}, []any{500, api.OK})
	is(t, []any{words[0], words[1], words[499]}, []any{split("k00 k25"), split("k00 k26"), split("k24 k44")})
	g.Rules = append(g.Rules, api.Rule{Left: "s", Right: split("k49 k00")})
	_, err = repair.Repaired(g, nil, ones)
	is(t, err, api.ErrFull)
	words, err = repair.Repaired(g, split("k00 k00"), ones)
	is(t, []any{len(words), err}, []any{21, api.OK}) // k49 comes last
	is(t, words[20], split("k49 k00"))
}

// P9.2: parts of which there are many words do not matter if they are not used with the least cost.
func TestRepairedUnused(t *testing.T) {
	const many = "x = x y\nx = y y y y y y y y y y y y\ny = a\ny = b\n"
	for text, want := range map[string]string{
		"tokens a b c\nstart s\ns = c\ns = x\n" + many:          "c",
		"tokens a b c\nstart s\ns = c\ns = c x\n" + many:        "c",
		"tokens a b c\nstart s\ns = c\ns = x x x\n" + many:      "c",
		"tokens a b c\nstart s\ns = c y\ns = c x\nz =\n" + many: "c a; c b",
	} {
		words, err := repair.Repaired(read(t, text), split("c"), ones)
		is(t, []any{text, texts(words), err}, []any{text, want, api.OK})
	}
	_, err := repair.Repaired(read(t, "tokens a b c\nstart s\ns = c x\n"+many), split("c"), ones)
	is(t, err, api.ErrFull)
}

// P9.2: words come out of many fixes, and out of few of many ways, each once.
func TestManyWays(t *testing.T) {
	g := read(t, "tokens a b c\nstart s\ns = s s\ns = a\ns = b\ns =\n")
	word := repeated("a", 40)
	for _, at := range []int{3, 11, 20, 38} {
		word[at] = "c"
	}
	words, err := repair.Repaired(g, word, ones)
	is(t, []any{len(words), err}, []any{55, api.OK}) // each c is taken away, or becomes a or b: with n of them 1, 3, 8, 21, 55 words
	l, n, err := repair.Repair(g, word, ones)
	is(t, []any{l, n, err}, []any{fixes("3 -, 11 -, 20 -, 38 -"), 4, api.OK})
	k, err := repair.Kept(g, word, ones)
	is(t, []any{k, err}, []any{3, api.OK})
}

// dense is a grammar with 100 rules that are nearly as long as they can be: all its symbols become all words of a and b with so many tokens, in very many ways.
func dense(step int) api.Grammar {
	g := api.Grammar{Kinds: []string{"a", "b", "c"}, Start: "x00", Rules: []api.Rule{
		{Left: "y", Right: []string{"a"}}, {Left: "y", Right: []string{"b"}}, {Left: "y"}, {Left: "z", Right: []string{"y"}}, {Left: "z"},
	}}
	for i := range 95 {
		r := api.Rule{Left: fmt.Sprintf("x%02d", i)}
		for j := range 20 {
			symbol := []string{"y", "z"}[j%2]
			if other := i + 1 + (i+j*step)%95; other < 95 {
				symbol = fmt.Sprintf("x%02d", other)
			}
			r.Right = append(r.Right, symbol)
		}
		g.Rules = append(g.Rules, r)
	}
	return g
}

// Z1: large grammars with very many ways.
func TestDense(t *testing.T) {
	g := dense(1)
	word := repeated("a", 40)
	word[7], word[30] = "c", "c"
	l, n, err := repair.Repair(g, word, ones)
	is(t, []any{l, n, err}, []any{fixes("7 -, 30 -"), 2, api.OK})
	words, err := repair.Repaired(g, word, ones)
	is(t, []any{len(words), err}, []any{8, api.OK})
	k, err := repair.Kept(g, word, ones)
	is(t, []any{k, err}, []any{7, api.OK})
	_, _, err = repair.Holes(g, word)
	is(t, err, api.ErrRule)
	filled, n, err := repair.Holes(g, repeated("b", 40))
	is(t, []any{filled, n, err}, []any{repeated("b", 40), 0, api.OK})
	in, _ := gram.Derives(g, filled)
	is(t, in, true)
}
