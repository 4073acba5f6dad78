package gram_test

import (
	"fmt"
	"math"
	"slices"
	"strings"
	"testing"

	"hedgelayer/api"
	"hedgelayer/gram"
)

// P1.5: the shortest words, and of several the least one.
func TestShortest(t *testing.T) {
	tests := []struct{ text, symbol, want string }{
		{"tokens num plus\nstart e\ne = e plus e\ne = num\n", "e", "num"},
		{"tokens num plus\nstart e\ne = e plus e\ne = num\n", "plus", "plus"},
		{"tokens a b\nstart s\ns = b\ns = a\n", "s", "a"},
		{"tokens a b\nstart s\ns = b\ns = a a\n", "s", "b"},
		{"tokens a b\nstart s\ns = b a\ns = x b\nx = b\nx = a\n", "s", "a b"},
		{"tokens a b\nstart s\ns = n s\ns = b\nn =\nn = a\n", "s", "b"},
		{"tokens a b\nstart s\ns = t\nt = s\nt = b\ns = u u\nu =\n", "s", ""},
		{"tokens a ab b\nstart s\ns = ab a\ns = a b\n", "s", "a b"}, // kind by kind, not letter by letter
		{"tokens a b c\nstart s\ns = t\nt = u\nu = b c\ns = b x\nx = c\nx = b\n", "s", "b b"},
	}
	for _, x := range tests {
		word, err := gram.Shortest(read(t, x.text), x.symbol)
		is(t, []any{x.text, word, err}, []any{x.text, split(x.want), api.OK})
	}
	g := read(t, "tokens a\nstart s\ns = a\nb = b a\n")
	for symbol, want := range map[string]api.Errno{"no": api.ErrNone, "": api.ErrNone, "b": api.ErrState} {
		word, err := gram.Shortest(g, symbol)
		is(t, []any{symbol, word, err}, []any{symbol, []string{}, want})
	}
	word, err := gram.Shortest(api.Grammar{}, "a")
	is(t, []any{word, err}, []any{[]string{}, api.ErrNone})
}

func repeated(symbol string, n int) []string { return slices.Repeat([]string{symbol}, n) }

// P1.5: MaxTokens of Shortest, and lengths that no int has.
func TestShortestLimit(t *testing.T) {
	g := api.Grammar{Kinds: []string{"a"}, Start: "s", Rules: []api.Rule{
		{Left: "s", Right: []string{"x", "a"}},
		{Left: "x", Right: repeated("y", 20)},
		{Left: "y", Right: repeated("z", 20)},
		{Left: "z", Right: repeated("a", 5)},
	}}
	word, err := gram.Shortest(g, "x")
	is(t, []any{slices.Equal(word, repeated("a", 2000)), err}, []any{true, api.OK})
	word, err = gram.Shortest(g, "s")
	is(t, []any{word, err}, []any{[]string{}, api.ErrFull})
	g.Rules = append(g.Rules, api.Rule{Left: "s", Right: []string{"y"}})
	word, err = gram.Shortest(g, "s")
	is(t, []any{len(word), err}, []any{100, api.OK})
}

func TestShortestIsHuge(t *testing.T) {
	g := api.Grammar{Kinds: []string{"a"}, Start: "x000", Rules: rules(100)}
	for i := range 99 {
		g.Rules[i].Right = repeated(g.Rules[i+1].Left, 20)
	}
	g.Rules[99].Right = []string{"a"}
	_, err := gram.Shortest(g, "x000")
	is(t, err, api.ErrFull)
	word, err := gram.Shortest(g, "x098")
	is(t, []any{len(word), err}, []any{20, api.OK})
	words, err := gram.Words(g, 8)
	is(t, []any{words, err}, []any{[]string{}, api.OK})
	barren, err := gram.Barren(g)
	is(t, []any{barren, err}, []any{[]string{}, api.OK})
	g.Rules[99].Right = nil
	word, err = gram.Shortest(g, "x000")
	is(t, []any{word, err}, []any{[]string{}, api.OK})
}

// texts are words as one string each.
func texts(words [][]string) []string {
	var list []string
	for _, word := range words {
		list = append(list, "<"+strings.Join(word, " ")+">")
	}
	return list
}

// P1.5: words by their numbers of tokens, then kind by kind.
func TestWords(t *testing.T) {
	tests := []struct {
		text string
		most int
		want string
	}{
		{"tokens num plus\nstart e\ne = e plus e\ne = num\n", 3, "<num> <num plus num>"},
		{"tokens num plus\nstart e\ne = e plus e\ne = num\n", 0, ""},
		{mixed, 2, "<> <a> <b> <a b> <b b>"},
		{"tokens a b\nstart s\ns = s s\ns = b\ns = a\ns =\n", 2, "<> <a> <b> <a a> <a b> <b a> <b b>"},
		{"tokens a b\nstart s\ns = s s\ns = b\ns = a\n", 1, "<a> <b>"},
		{"tokens a ab b\nstart s\ns = x x\nx = a\nx = ab\nx = b\n", 2, "<a a> <a ab> <a b> <ab a> <ab ab> <ab b> <b a> <b ab> <b b>"},
		{"tokens a\nstart s\ns =\n", 0, "<>"},
		{"tokens a\nstart s\ns = s\n", 8, ""},
		{"tokens a b\nstart s\ns = t\nt = s\ns = a\nt = b\n", 8, "<a> <b>"},
		{"tokens a b c d\nstart s\ns = a s b n\ns = m c\nn =\nm = n d\nm = n\n", 5, "<c> <d c> <a c b> <a d c b> <a a c b b>"},
	}
	for _, x := range tests {
		words, err := gram.Words(read(t, x.text), x.most)
		is(t, []any{x.text, strings.Join(texts(words), " "), err}, []any{x.text, x.want, api.OK})
	}
}

func TestWordsErrors(t *testing.T) {
	g := small()
	tests := map[int]api.Errno{-1: api.ErrArg, 0: api.OK, 8: api.OK, 9: api.ErrArg, math.MaxInt: api.ErrArg, math.MinInt: api.ErrArg}
	for most, want := range tests {
		words, err := gram.Words(g, most)
		is(t, []any{most, err}, []any{most, want})
		if err != api.OK {
			is(t, len(words), 0)
		}
	}
	words, err := gram.Words(api.Grammar{}, -1)
	is(t, []any{words, err}, []any{[]string{}, api.ErrNone})
}

// pairs is a grammar of 2 words of 1 kind and of 45 times 44 words of 2 kinds, and of more words by what is told.
func pairs(more ...[]string) api.Grammar {
	g := api.Grammar{Kinds: kinds(60), Start: "s", Rules: []api.Rule{{Left: "s", Right: []string{"x", "y"}}}}
	for i, kind := range g.Kinds[:45] {
		g.Rules = append(g.Rules, api.Rule{Left: "x", Right: []string{kind}})
		if i < 44 {
			g.Rules = append(g.Rules, api.Rule{Left: "y", Right: []string{kind}})
		}
	}
	for _, right := range more {
		g.Rules = append(g.Rules, api.Rule{Left: "s", Right: right})
	}
	return g
}

// P1.5: MaxWords of Words.
func TestWordsLimit(t *testing.T) {
	var more [][]string
	for i := range 5 {
		more = append(more, []string{"k50", "k51", fmt.Sprintf("k5%d", i), "z"})
	}
	g := pairs(more...)
	g.Rules = append(g.Rules, api.Rule{Left: "z"}, api.Rule{Left: "z", Right: []string{"k52"}},
		api.Rule{Left: "z", Right: []string{"k53"}}, api.Rule{Left: "z", Right: []string{"k54"}}) // 1,980 and 20 words
	words, err := gram.Words(g, 8)
	is(t, []any{len(words), err}, []any{2000, api.OK})
	g.Rules = append(g.Rules, api.Rule{Left: "s"})
	words, err = gram.Words(g, 8)
	is(t, []any{len(words), err}, []any{0, api.ErrFull})
	words, err = gram.Words(g, 3)
	is(t, []any{len(words), err}, []any{1986, api.OK})
}

// P1.5: a symbol may have more words than the grammar: they have no room there.
func TestWordsOfParts(t *testing.T) {
	for _, rules := range []string{
		"s = a a a a a x\ns = y y y y y y y y x\n",
		"s = x a a a a a\ns = x y y y y y y y y\n",
		"s = a a x a a a\ns = y y y y x y y y y\n",
	} {
		g := read(t, "tokens a b c\nstart s\n"+rules+"x = x x\nx = a\nx = b\nx = c\ny = a\nw = x\n")
		words, err := gram.Words(g, 8)
		is(t, []any{len(words), err}, []any{3 + 9 + 27, api.OK})
		words, err = gram.Words(g, 5)
		is(t, []any{len(words), err}, []any{0, api.OK})
	}
}

// P1.5: x and z have 1,500 words each, so y has more than MaxWords, but no room for them.
func TestWordsWithoutRoom(t *testing.T) {
	g := api.Grammar{Kinds: kinds(60), Start: "s", Rules: []api.Rule{
		{Left: "s", Right: []string{"k00", "x"}},
		{Left: "s", Right: []string{"z"}},
		{Left: "s", Right: []string{"k01", "k01", "k01", "k01", "k01", "k01", "k01", "y"}},
		{Left: "x", Right: []string{"p", "q"}},
		{Left: "z", Right: []string{"k00", "p", "q"}},
		{Left: "y", Right: []string{"x"}},
		{Left: "y", Right: []string{"z"}},
		{Left: "y", Right: []string{"k01"}},
	}}
	for i := range 50 {
		g.Rules = append(g.Rules, api.Rule{Left: "p", Right: []string{g.Kinds[i]}})
	}
	for i := range 30 {
		g.Rules = append(g.Rules, api.Rule{Left: "q", Right: []string{g.Kinds[i]}})
	}
	words, err := gram.Words(g, 8)
	is(t, []any{len(words), err}, []any{1501, api.OK})
}

// P1.5: very many words, ways and empty symbols are no matter.
func TestWordsOfWideGrammars(t *testing.T) {
	wide := api.Grammar{Kinds: kinds(60), Start: "x", Rules: []api.Rule{{Left: "x", Right: repeated("x", 20)}, {Left: "x"}}}
	for _, kind := range wide.Kinds {
		wide.Rules = append(wide.Rules, api.Rule{Left: "x", Right: []string{kind}})
	}
	words, err := gram.Words(wide, 8)
	is(t, []any{len(words), err}, []any{0, api.ErrFull})
	dense := api.Grammar{Kinds: []string{"a", "b"}, Start: "x000", Rules: rules(97)}
	for i := range dense.Rules {
		for j := range 20 {
			dense.Rules[i].Right = append(dense.Rules[i].Right, fmt.Sprintf("x%03d", (i+i*j+j)%97))
		}
	}
	dense.Rules = append(dense.Rules, api.Rule{Left: "x000"}, api.Rule{Left: "x050", Right: []string{"a"}}, api.Rule{Left: "x060", Right: []string{"b"}})
	words, err = gram.Words(dense, 8)
	is(t, []any{len(words) > 0, err}, []any{true, api.OK})
}
