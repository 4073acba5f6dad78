package table_test

import (
	"fmt"
	"slices"
	"strings"
	"testing"

	"hedgelayer/api"
	"hedgelayer/gram"
	"hedgelayer/table"
)

func repeated(symbol string, n int) []string { return slices.Repeat([]string{symbol}, n) }

// contexts is a grammar with 2000 states: y stands in 37 places, and what comes behind it differs; there it has 20 + 20 + 11 states, and the place has 3.
func contexts() api.Grammar {
	g := api.Grammar{Kinds: []string{"a", "b", "c"}, Start: "s"}
	for i := range 37 {
		kind := fmt.Sprintf("k%02d", i)
		g.Kinds = append(g.Kinds, kind)
		g.Rules = append(g.Rules, api.Rule{Left: "s", Right: []string{kind, "y", kind}})
	}
	for kind, n := range map[string]int{"a": 20, "b": 20, "c": 11} {
		g.Rules = append(g.Rules, api.Rule{Left: "y", Right: repeated(kind, n)})
	}
	return g
}

// P3.2: MaxStates states are not too many, also for the merged table, which has fewer; one more is.
func TestMaxStates(t *testing.T) {
	g := contexts()
	n, err := table.Size(g, api.TableFull)
	is(t, []any{n, err}, []any{api.MaxStates, api.OK})
	n, err = table.Size(g, api.TableMerged)
	is(t, []any{n, err}, []any{2 + 37*3 + 51, api.OK})
	l, err := table.Make(g, api.TableFull)
	is(t, []any{len(l), err}, []any{api.MaxStates, api.OK})
	list, err := table.Access(g, api.TableFull, api.MaxStates-1)
	is(t, []any{len(list), err}, []any{21, api.OK})
	m, err := table.Merged(g)
	is(t, []any{len(m), slices.Max(m), err}, []any{api.MaxStates, 2 + 37*3 + 50, api.OK})
	g.Rules = append(g.Rules, api.Rule{Left: "s", Right: []string{"a"}})
	for _, kind := range []int{api.TableFull, api.TableMerged} {
		_, a := table.Items(g, kind, -1)
		_, b := table.Size(g, kind)
		_, c := table.Reach(g, kind, repeated("", api.MaxTokens+1))
		_, d := table.Access(g, kind, -1)
		_, e := table.Make(g, kind)
		_, f := table.Conflicts(g, kind)
		_, h := table.Resolved(g, kind)
		_, i := table.Defaults(g, kind)
		_, j := table.Merged(g)
		is(t, []any{a, b, c, d, e, f, h, i, j}, slices.Repeat([]any{api.ErrFull}, 9))
	}
	_, err = table.Size(g, 0)
	is(t, err, api.ErrKind)
}

// manyStates has so many states that they cannot all be found.
func manyStates() api.Grammar {
	g := api.Grammar{Start: "s"}
	for i := range 30 {
		g.Kinds = append(g.Kinds, fmt.Sprintf("k%02d", i))
	}
	for i := range 30 {
		g.Rules = append(g.Rules, api.Rule{Left: "s", Right: []string{g.Kinds[i], "s", g.Kinds[(i*7+1)%30]}})
		g.Rules = append(g.Rules, api.Rule{Left: "s", Right: []string{g.Kinds[i], "s", "s", g.Kinds[(i*11+3)%30]}})
	}
	g.Rules = append(g.Rules, api.Rule{Left: "s", Right: []string{"k00"}})
	return g
}

// Z1: what has too many states ends, too.
func TestManyStates(t *testing.T) {
	n, err := table.Size(manyStates(), api.TableMerged)
	is(t, []any{n, err}, []any{0, api.ErrFull})
}

// operators is a grammar with 50 operators and parentheses: behind two operands, inside of parentheses and outside, each operator could be shifted.
func operators(level int) api.Grammar {
	g := api.Grammar{Start: "s", Rules: []api.Rule{{Left: "s", Right: []string{"e"}}, {Left: "e", Right: []string{"n"}}, {Left: "e", Right: []string{"l", "e", "r"}}}}
	g.Kinds = []string{"l", "n", "q", "r"}
	for i := range 50 {
		kind := fmt.Sprintf("k%02d", i)
		g.Kinds = append(g.Kinds, kind)
		g.Rules = append(g.Rules, api.Rule{Left: "e", Right: []string{"e", kind, "e"}, Level: level})
	}
	slices.Sort(g.Kinds)
	return g
}

// withOneMore adds a place where two rules could be reduced.
func withOneMore(g api.Grammar, level int) api.Grammar {
	g.Rules = append(g.Rules, api.Rule{Left: "s", Right: []string{"x"}}, api.Rule{Left: "s", Right: []string{"y"}},
		api.Rule{Left: "x", Right: []string{"q"}}, api.Rule{Left: "y", Right: []string{"q"}, Level: level})
	return g
}

// P3.3: 5,000 conflicts, or places where levels have decided, are not too many; one more is. Each of them counts only where it is told.
func TestManyPlaces(t *testing.T) {
	c, err := table.Conflicts(operators(0), api.TableFull)
	is(t, []any{len(c), err}, []any{5_000, api.OK})
	c, err = table.Conflicts(operators(0), api.TableMerged)
	is(t, []any{len(c), err}, []any{2_500, api.OK})
	c, err = table.Conflicts(withOneMore(operators(0), 0), api.TableFull)
	is(t, []any{c, err}, []any{[]api.Conflict{}, api.ErrFull})
	c, err = table.Conflicts(withOneMore(operators(0), 1), api.TableFull)
	is(t, []any{len(c), err}, []any{5_000, api.OK})
	r, err := table.Resolved(operators(1), api.TableFull)
	is(t, []any{len(r), err}, []any{5_000, api.OK})
	r, err = table.Resolved(withOneMore(operators(1), 1), api.TableFull)
	is(t, []any{r, err}, []any{[]api.Conflict{}, api.ErrFull})
	r, err = table.Resolved(withOneMore(operators(1), 0), api.TableFull)
	is(t, []any{len(r), err}, []any{5_000, api.OK})
	c, err = table.Conflicts(withOneMore(operators(1), 0), api.TableFull)
	is(t, []any{told(c), err}, []any{"4 $ [55 56] q", api.OK})
	_, err = table.Make(withOneMore(operators(0), 0), api.TableFull)
	is(t, err, api.ErrConflict)
}

// P3.3: too many places come ahead of what is wrong with their words.
func TestManyPlacesFirst(t *testing.T) {
	barren := func(g api.Grammar) api.Grammar {
		g.Rules[0].Right = []string{"z", "e"}
		g.Rules = append(g.Rules, api.Rule{Left: "z", Right: []string{"z"}})
		return g
	}
	c, err := table.Conflicts(withOneMore(barren(operators(0)), 1), api.TableFull)
	is(t, []any{c, err}, []any{[]api.Conflict{}, api.ErrFull}) // behind z, z could be reduced, too
	c, err = table.Conflicts(barren(operators(0)), api.TableMerged)
	is(t, []any{c, err}, []any{[]api.Conflict{}, api.ErrState})
	r, err := table.Resolved(barren(operators(1)), api.TableMerged)
	is(t, []any{r, err}, []any{[]api.Conflict{}, api.ErrState})
}

// long has the Lefts w00 to w11: the shortest word of wN has 2 to the power N tokens.
const long = "w00 = n\nw01 = w00 w00\nw02 = w01 w01\nw03 = w02 w02\nw04 = w03 w03\nw05 = w04 w04\nw06 = w05 w05\nw07 = w06 w06\nw08 = w07 w07\nw09 = w08 w08\nw10 = w09 w09\nw11 = w10 w10\n"

// P3.3: the errors of words: those of gram.Shortest for the symbols in order, then that of too many kinds; place by place.
func TestErrorsOfWords(t *testing.T) {
	tests := []struct {
		front string
		err   api.Errno
		words int // tokens of the last word
	}{
		{"w10 w09", api.OK, 1539},
		{"w10 w09 w08 w07 w06 w03 w02 w00", api.OK, 2000},
		{"w10 w09 w08 w07 w06 w03 w02 w01", api.ErrFull, 0},
		{"w10 w10", api.ErrFull, 0},
		{"w11", api.ErrFull, 0},
		{"z", api.ErrState, 0},
		{"w11 z", api.ErrFull, 0},
		{"z w11", api.ErrState, 0},
		{"w10 w10 z", api.ErrState, 0},
		{"w10 w10 w11 z", api.ErrFull, 0},
	}
	for _, x := range tests {
		for level := range 2 {
			text := fmt.Sprintf("tokens m n p\nstart s\ns = %s e\n%sz = z m\ne = e p e\ne = m\n", x.front, long)
			g := read(t, strings.Replace(text, "e p e\n", "e p e"+[]string{"", " / 1"}[level]+"\n", 1))
			list, err := table.Conflicts(g, api.TableMerged)
			if level > 0 {
				list, err = table.Resolved(g, api.TableMerged)
			}
			if x.err != api.OK {
				is(t, []any{x.front, list, err}, []any{x.front, []api.Conflict{}, x.err})
				continue
			}
			is(t, []any{x.front, len(list), err}, []any{x.front, 1, api.OK})
			is(t, len(list[0].Word), x.words)
			is(t, list[0].Word[x.words-4:], split("n m p m"))
		}
	}
}

// P3.3: the first place whose word is wrong tells the error.
func TestFirstErrorOfWords(t *testing.T) {
	const rules = "tokens a b m n p\nstart s\ns = a %s e\ns = b %s e\n%sz = z m\ne = e p e\ne = m\n"
	for _, x := range []struct {
		a, b string
		err  api.Errno
	}{{"z", "w11", api.ErrState}, {"w11", "z", api.ErrFull}} {
		g := read(t, fmt.Sprintf(rules, x.a, x.b, long))
		_, err := table.Conflicts(g, api.TableFull)
		is(t, []any{x, err}, []any{x, x.err})
		_, err = table.Make(g, api.TableFull)
		is(t, err, api.ErrConflict)
		r, err := table.Resolved(g, api.TableFull)
		is(t, []any{r, err}, []any{[]api.Conflict{}, api.OK})
	}
}

// What comes in a full set: 60 kinds and the end.
func TestAllAheads(t *testing.T) {
	g := api.Grammar{Start: "s"}
	for i := range api.MaxKinds {
		kind := fmt.Sprintf("k%02d", i)
		g.Kinds = append(g.Kinds, kind)
	}
	for i := range api.MaxKinds {
		g.Rules = append(g.Rules, api.Rule{Left: "s", Right: []string{"s", g.Kinds[i]}})
	}
	g.Rules = append(g.Rules, api.Rule{Left: "s"})
	is(t, gram.Check(g), api.OK)
	l, err := table.Items(g, api.TableFull, 0)
	is(t, []any{len(l), l[61], l[62], err}, []any{1 + 61*61, api.Item{Rule: 0, Ahead: "k59"}, api.Item{Rule: 1}, api.OK})
	m, err := table.Make(g, api.TableFull)
	is(t, []any{len(m), len(m[0].Reduces), m[0].Reduces[60], len(m[1].Moves), err}, []any{62, 61, api.Reduce{Ahead: "k59", Rule: 60}, 60, api.OK})
}
