package parse_test

import (
	"slices"
	"strings"
	"testing"

	"hedgelayer/api"
	"hedgelayer/parse"
	"hedgelayer/tree"
)

func times(n int, kind string) []string { return slices.Repeat([]string{kind}, n) }

// nest is a grammar with one word, whose tree has 20,000 nodes if more is just x: those of q, z, y, w and x are 16,421, 821, 41, 2 and 1.
func nest(t *testing.T, more string) api.Grammar {
	twenty := func(symbol string) string { return strings.Join(times(20, symbol), " ") }
	return read(t, "tokens a\nstart s\ns = q z z z z y y y y y y y w w w "+more+
		"\nq = "+twenty("z")+"\nz = "+twenty("y")+"\ny = "+twenty("w")+"\nw = x\nx =\n")
}

// P5.1: MaxNodes rules can be reduced, and then the word accepted; one more is too many.
func TestMaxReduces(t *testing.T) {
	g := nest(t, "x")
	ok, at, err := parse.Accepts(g, nil)
	is(t, []any{ok, at, err}, []any{true, 0, api.OK})
	l, err := parse.Steps(g, nil)
	is(t, []any{len(l), err}, []any{api.MaxNodes, api.OK})
	kinds, end, err := parse.Expected(g, nil)
	is(t, []any{kinds, end, err}, []any{[]string{}, true, api.OK})
	x, at, err := parse.Parse(g, nil)
	n, deep, _ := tree.Size(x)
	is(t, []any{n, deep, at, err}, []any{api.MaxNodes, 6, 0, api.OK})
	g = nest(t, "x x")
	const ok0, full = api.OK, api.ErrFull
	is(t, errors(g, nil, nil), []api.Errno{full, full, full, full, full, ok0, ok0})
	checkPartial(t, g, "a", "", 0)
	checkWrong(t, g, "a", 0)
}

// P5.1: what is reduced ahead of a token counts where the token is read.
func TestMaxReducesAhead(t *testing.T) {
	const ok, wrong, full = api.OK, api.ErrRule, api.ErrFull
	g, a := nest(t, "x x x a"), split("a") // 20,001 ahead of a
	is(t, errors(g, a, plain(a...)), slices.Repeat([]api.Errno{full}, 7))
	is(t, errors(g, nil, nil), []api.Errno{wrong, ok, full, wrong, wrong, ok, ok})
	g = nest(t, "x x a") // 20,000 ahead of a
	is(t, errors(g, a, plain(a...)), []api.Errno{full, full, full, full, full, ok, ok})
	kinds, end, err := parse.Expected(g, nil)
	is(t, []any{kinds, end, err}, []any{a, false, api.OK})
	list, err := parse.Stack(g, a)
	is(t, []any{strings.Join(list, " "), err}, []any{strings.Join(g.Rules[0].Right, " "), api.OK})
	trees, count, err := parse.Partial(g, plain("a"))
	n, _, _ := tree.Size(trees[0])
	is(t, []any{len(trees), n, count, err}, []any{len(list), 16_421, 1, api.OK})
}

// P5.2: a tree can have MaxNodes leaves and nodes, and not one more.
func TestMaxNodes(t *testing.T) {
	x, at, err := parse.Parse(nest(t, "a"), tokens("a"))
	n, _, _ := tree.Size(x)
	is(t, []any{n, at, err}, []any{api.MaxNodes, 0, api.OK})
	x, at, err = parse.Parse(nest(t, "a x"), tokens("a"))
	is(t, []any{x, at, err}, []any{api.Tree{}, 0, api.ErrLarge})
	ok, at, err := parse.Accepts(nest(t, "a x"), split("a"))
	is(t, []any{ok, at, err}, []any{true, 0, api.OK})
	x, at, err = parse.Parse(nest(t, "a x"), tokens("a", "a"))
	is(t, []any{x, at, err}, []any{api.Tree{}, 1, api.ErrRule})
}

// P5.2: a tree can be MaxDepth deep, and not more; a wrong token comes first. Trees of Partial are as deep as they are.
func TestMaxDepth(t *testing.T) {
	left, right := "tokens a b\nstart e\ne = e a\ne = a\n", "tokens a b\nstart e\ne = a e\ne = a\n"
	for _, text := range []string{left, right} {
		g := read(t, text)
		x, at, err := parse.Parse(g, plain(times(api.MaxDepth-1, "a")...))
		_, deep, _ := tree.Size(x)
		is(t, []any{deep, at, err}, []any{api.MaxDepth, 0, api.OK})
		x, at, err = parse.Parse(g, plain(times(api.MaxDepth, "a")...))
		is(t, []any{x, at, err}, []any{api.Tree{}, 0, api.ErrLarge})
		x, at, err = parse.Parse(g, plain(append(times(api.MaxTokens-1, "a"), "b")...))
		is(t, []any{x, at, err}, []any{api.Tree{}, api.MaxTokens - 1, api.ErrRule})
	}
	list, count, err := parse.Partial(read(t, left), plain(times(api.MaxTokens, "a")...))
	deep := 0
	for x := list[0]; ; x = x.Kids[0] {
		deep++
		if x.Rule == -1 {
			break
		}
	}
	is(t, []any{len(list), deep, count, err}, []any{2, api.MaxTokens, api.MaxTokens, api.OK})
}

// P5.1: words can have MaxTokens tokens; more kinds can be expected behind them.
func TestMaxTokens(t *testing.T) {
	g := read(t, "tokens a\nstart s\ns = s r\ns =\nr = "+strings.Join(times(20, "a"), " ")+"\n")
	word := times(api.MaxTokens, "a")
	x, at, err := parse.Parse(g, plain(word...))
	n, deep, _ := tree.Size(x)
	is(t, []any{n, deep, at, err}, []any{api.MaxTokens + 2*100 + 1, 102, 0, api.OK})
	ok, at, err := parse.Accepts(g, word)
	is(t, []any{ok, at, err}, []any{true, 0, api.OK})
	kinds, end, err := parse.Expected(g, word)
	is(t, []any{kinds, end, err}, []any{split("a"), true, api.OK})
	list, err := parse.Stack(g, word)
	is(t, []any{list[0], len(list), err}, []any{"s", 21, api.OK})
	steps, err := parse.Steps(g, word)
	is(t, []any{len(steps), err}, []any{n, api.OK})
	trees, count, err := parse.Partial(g, plain(word...))
	is(t, []any{len(trees), count, err}, []any{21, api.MaxTokens, api.OK})
	word = append(word, "a")
	is(t, errors(g, word, plain(word...)), slices.Repeat([]api.Errno{api.ErrLarge}, 7))
}

// P5.4: all lists of a derivation together can have 200,000 symbols, and not one more.
func TestManySymbols(t *testing.T) {
	// The lists of a word of n times a have 1 + 2 + .. + n and n symbols; one more, for a b with i tokens ahead, has i + 2.
	g := read(t, "tokens a b\nstart e\ne = a e\ne = a\ne = b f\nf = e\n")
	with := func(i int) []string {
		word := times(630, "a")
		word[i] = "b"
		return word
	}
	lists, err := parse.Derivation(g, with(603))
	symbols := 0
	for _, list := range lists {
		symbols += len(list)
	}
	is(t, []any{len(lists), symbols, err}, []any{632, 200_000, api.OK})
	lists, err = parse.Derivation(g, with(604))
	is(t, []any{lists, err}, []any{[][]string{}, api.ErrFull})
	lists, err = parse.Derivation(g, times(api.MaxTokens, "a"))
	is(t, []any{lists, err}, []any{[][]string{}, api.ErrFull})
	lists, err = parse.Derivation(g, append(times(api.MaxTokens-1, "a"), "b"))
	is(t, []any{lists, err}, []any{[][]string{}, api.ErrRule})
	lists, err = parse.Derivation(nest(t, "x"), nil)
	is(t, []any{lists, err}, []any{[][]string{}, api.ErrFull})
}

// P5.1: parsers that never end by levels, because of the end.
func TestEndlessAtEnd(t *testing.T) {
	const ok, wrong, full = api.OK, api.ErrRule, api.ErrFull
	g := read(t, "tokens a\nstart s\ns = s / 1\ns = a\n")
	is(t, errors(g, split("a"), plain("a")), []api.Errno{full, full, full, full, full, ok, ok})
	is(t, errors(g, nil, nil), []api.Errno{wrong, ok, ok, wrong, wrong, ok, ok})
	checkWrong(t, g, "a a", 1)
	checkPartial(t, g, "a a", "a", 1)
	kinds, end, err := parse.Expected(g, nil)
	is(t, []any{kinds, end, err}, []any{split("a"), false, api.OK})
	list, err := parse.Stack(g, split("a"))
	is(t, []any{list, err}, []any{split("a"), api.OK})
}

// P5.1: a parser that never ends by levels, because of a kind: its stack rises as long as it goes on.
func TestEndlessAtKind(t *testing.T) {
	const ok, wrong, full = api.OK, api.ErrRule, api.ErrFull
	g := read(t, "tokens a b\nstart s\ns = b t a\nt = x t\nt = / 1\nx = / 2\n")
	is(t, errors(g, nil, nil), []api.Errno{wrong, ok, ok, wrong, wrong, ok, ok})
	is(t, errors(g, split("b"), plain("b")), []api.Errno{wrong, ok, full, wrong, wrong, ok, ok})
	is(t, errors(g, split("b a"), plain("b", "a")), slices.Repeat([]api.Errno{full}, 7))
	is(t, errors(g, split("b b a"), plain("b", "b", "a")), []api.Errno{wrong, ok, wrong, wrong, wrong, wrong, ok})
	checkWrong(t, g, "b b a", 1)
	checkPartial(t, g, "b b a", "b", 1)
}
