package reuse_test

import (
	"fmt"
	"slices"
	"strings"
	"testing"

	"hedgelayer/api"
	"hedgelayer/parse"
	"hedgelayer/reuse"
	"hedgelayer/tree"
)

func repeated(n int, kind string) string { return strings.Repeat(" "+kind, n)[1:] }

// tokens are n tokens of a kind.
func tokens(n int, kind string) []api.Token {
	return slices.Repeat([]api.Token{{Kind: kind}}, n)
}

// rows is a grammar of words of many tokens, whose trees are not deep.
func rows(t *testing.T) api.Grammar {
	return read(t, "tokens a\nstart s\ns = s r\ns =\nr = "+repeated(20, "a")+"\n")
}

// P7.1, P7.2: words can have MaxTokens tokens.
func TestMaxTokens(t *testing.T) {
	g := rows(t)
	l := tokens(api.MaxTokens, "a")
	before, after, err := reuse.Damage(l, l[1:])
	is(t, []any{before, after, err}, []any{api.Range{From: 1_999, To: 2_000}, api.Range{From: 1_999, To: 1_999}, api.OK})
	old := parsed(t, g, l)
	now := slices.Clone(l)
	now[1_000].Text = "x"
	kept, err := reuse.Kept(g, old, now)
	is(t, []any{len(kept), err}, []any{1 + 19 + 49, api.OK})
	half := slices.Repeat([]int{0}, 50)
	is(t, []any{kept[0], kept[1].New, kept[68].Tokens}, []any{api.Kept{Old: half, New: half, Tokens: api.Range{To: 1_000}}, append(slices.Clone(half[1:]), 1, 1), api.Range{From: 1_980, To: 2_000}})
	share, err := reuse.Share(g, old, now)
	is(t, []any{share, err}, []any{api.Fraction{Num: 99, Den: 100}, api.OK})
	changed, err := reuse.Changed(g, old, now)
	is(t, []any{len(changed), changed[50], err}, []any{51, append(slices.Clone(half[1:]), 1), api.OK})
	fragile, err := reuse.Fragile(g, old, api.MaxTokens)
	is(t, []any{len(fragile), err}, []any{3, api.OK})
	safe, err := reuse.Safe(g, old)
	is(t, []any{len(safe), err}, []any{200, api.OK})
	now[1_000].Text = strings.Repeat("x", api.MaxText)
	share, err = reuse.Share(g, old, now)
	is(t, []any{share, err}, []any{api.Fraction{Num: 99, Den: 100}, api.OK})
}

// P7.2: an old tree can have more tokens than a word.
func TestManyOldTokens(t *testing.T) {
	g := rows(t)
	row := node(2, slices.Repeat([]api.Tree{leaf("a")}, 20)...)
	old := node(1)
	for range api.MaxDepth - 2 {
		old = node(0, old, row)
	}
	n, deep, _ := tree.Size(old)
	is(t, []int{n, deep}, []int{398*22 + 1, api.MaxDepth})
	now := tokens(api.MaxTokens, "a")
	half := slices.Repeat([]int{0}, 298)
	kept, err := reuse.Kept(g, old, now)
	is(t, []any{kept, err}, []any{[]api.Kept{{Old: half, Tokens: api.Range{To: 2_000}}}, api.OK})
	at, ok, err := reuse.Moved(g, old, now, append(half, 1, 7))
	is(t, []any{at, ok, err}, []any{[]int{1, 7}, true, api.OK})
	at, ok, err = reuse.Moved(g, old, now, half[1:])
	is(t, []any{at, ok, err}, []any{[]int{}, false, api.OK})
	fragile, err := reuse.Fragile(g, old, 398*20)
	is(t, []any{len(fragile), err}, []any{3, api.OK})
	_, err = reuse.Fragile(g, old, 398*20+1)
	is(t, err, api.ErrArg)
	_, err = reuse.Safe(g, old)
	is(t, err, api.ErrLarge)
}

// Z6, P7.3: paths in trees of MaxDepth.
func TestMaxDepth(t *testing.T) {
	g := read(t, "tokens a\nstart e\ne = a e\ne = a\n")
	l := tokens(api.MaxDepth-1, "a")
	old := parsed(t, g, l)
	down := slices.Repeat([]int{1}, api.MaxDepth-2)
	last := append(slices.Clone(down), 0)
	kept, err := reuse.Kept(g, old, l[1:])
	is(t, []any{len(kept), kept[397], err}, []any{398, api.Kept{Old: last[1:], New: last[1:], Tokens: api.Range{From: 397, To: 398}}, api.OK})
	now := slices.Clone(l)
	now[0].Text = "x"
	at, ok, err := reuse.Moved(g, old, now, last)
	is(t, []any{at, ok, err}, []any{last, true, api.OK})
	now[0].Text, now[398].Text = "", "x"
	changed, err := reuse.Changed(g, old, now)
	is(t, []any{len(changed), changed[398], err}, []any{399, down, api.OK})
	fragile, err := reuse.Fragile(g, old, 399)
	is(t, []any{len(fragile), fragile[398], err}, []any{399, down, api.OK})
	safe, err := reuse.Safe(g, old)
	is(t, []any{len(safe), safe[397], err}, []any{398, down[1:], api.OK})
}

// nest is a grammar of the word a alone, whose tree has MaxNodes parts, nearly all of them without tokens.
func nest(t *testing.T) api.Grammar {
	return read(t, "tokens a\nstart s\ns = q z z z z y y y y y y y w w w a\nq = "+repeated(20, "z")+"\nz = "+repeated(20, "y")+
		"\ny = "+repeated(20, "w")+"\nw = x\nx =\n")
}

// P7.2 to P7.4: trees of MaxNodes parts.
func TestMaxNodes(t *testing.T) {
	g := nest(t)
	old := parsed(t, g, split("a"))
	n, _, _ := tree.Size(old)
	is(t, n, api.MaxNodes)
	kept, err := reuse.Kept(g, old, split("a"))
	is(t, []any{kept, err}, []any{[]api.Kept{{Tokens: api.Range{To: 1}}}, api.OK})
	changed, err := reuse.Changed(g, old, split("a:1"))
	is(t, []any{len(changed), err}, []any{api.MaxNodes - 1, api.OK})
	fragile, err := reuse.Fragile(g, old, 1)
	is(t, []any{len(fragile), err}, []any{api.MaxNodes - 1, api.OK})
	is(t, slices.IsSortedFunc(changed, slices.Compare), true)
	is(t, fmt.Sprint(fragile) == fmt.Sprint(changed), true)
	safe, err := reuse.Safe(g, old)
	is(t, []any{safe, err}, []any{[][]int{}, api.OK})
	at, ok, err := reuse.Moved(g, old, split("a"), []int{0, 19, 19, 19, 0})
	is(t, []any{at, ok, err}, []any{[]int{0, 19, 19, 19, 0}, true, api.OK})
	at, ok, err = reuse.Moved(g, old, split("a:1"), []int{0, 19, 19, 19, 0})
	is(t, []any{at, ok, err}, []any{[]int{}, false, api.OK})
}

// Z1: many subtrees that span the same tokens, and differ far below: in an old tree with some nodes less each subtree is looked for in vain.
func TestLongChains(t *testing.T) {
	var b strings.Builder
	b.WriteString("tokens a\nstart s0\n")
	for i := range 97 {
		fmt.Fprintf(&b, "s%d = s%d\n", i, i+1)
	}
	b.WriteString("s97 = s97 r\ns97 = r\nr = " + repeated(20, "a") + "\n")
	g := read(t, b.String())
	l := tokens(api.MaxTokens, "a")
	x := parsed(t, g, l)
	for i := range 97 {
		path := slices.Repeat([]int{0}, i)
		part, _ := tree.Part(x, path)
		kept, err := reuse.Kept(g, part, l)
		is(t, []any{kept, err}, []any{[]api.Kept{{New: path, Tokens: api.Range{To: 2_000}}}, api.OK})
	}
}

// P7.4: Safe where a table has MaxStates states.
func TestMaxStates(t *testing.T) {
	g := api.Grammar{Kinds: []string{"a", "b", "c"}, Start: "s"}
	for i := range 37 {
		kind := fmt.Sprintf("k%02d", i)
		g.Kinds = append(g.Kinds, kind)
		g.Rules = append(g.Rules, api.Rule{Left: "s", Right: []string{kind, "y", kind}})
	}
	for i, n := range []int{20, 20, 11} {
		g.Rules = append(g.Rules, api.Rule{Left: "y", Right: slices.Repeat(g.Kinds[i:i+1], n)})
	}
	l := slices.Concat(tokens(1, "k36"), tokens(11, "c"), tokens(1, "k36"))
	x, _, err := parse.Parse(g, l)
	is(t, err, api.OK)
	safe, err := reuse.Safe(g, x)
	is(t, []any{safe, err}, []any{[][]int{nil, {1}}, api.OK})
	g.Rules = append(g.Rules, api.Rule{Left: "s", Right: []string{"a"}})
	_, err = reuse.Safe(g, x)
	is(t, err, api.ErrFull)
	is(t, errors(g, x, l, nil), all(api.ErrFull))
	fragile, err := reuse.Fragile(g, x, 12)
	is(t, []any{fragile, err}, []any{[][]int{nil, {1}}, api.OK})
}
