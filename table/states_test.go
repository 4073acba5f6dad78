package table_test

import (
	"fmt"
	"math"
	"slices"
	"strings"
	"testing"

	"hedgelayer/api"
	"hedgelayer/gram"
	"hedgelayer/table"
)

func is(t *testing.T, got, want any) {
	t.Helper()
	if fmt.Sprint(got) != fmt.Sprint(want) {
		t.Errorf("got %v, want %v", got, want)
	}
}

// read reads a grammar that must be right.
func read(t *testing.T, text string) api.Grammar {
	t.Helper()
	g, line, err := gram.Read(text)
	is(t, []any{text, line, err}, []any{text, 0, api.OK})
	return g
}

// split is a list that is told with blanks between.
func split(s string) []string { return strings.Fields(s) }

// plain are the items of a state, each one as its rule, its dot, and what can come ($ for the end).
func plain(list []api.Item) string {
	var out []string
	for _, x := range list {
		ahead := x.Ahead
		if ahead == "" {
			ahead = "$"
		}
		out = append(out, fmt.Sprintf("%d.%d%s", x.Rule, x.Dot, ahead))
	}
	return strings.Join(out, " ")
}

// checkItems compares all states with the wanted ones.
func checkItems(t *testing.T, g api.Grammar, kind int, want []string) {
	t.Helper()
	n, err := table.Size(g, kind)
	is(t, []any{n, err}, []any{len(want), api.OK})
	for i, items := range want {
		l, err := table.Items(g, kind, i)
		is(t, []any{i, plain(l), err}, []any{i, items, api.OK})
	}
}

// pairs has 10 states, of which three pairs are merged.
const pairs = "tokens a b\nstart s\ns = c c\nc = a c\nc = b\n"

// P3.1, P3.2: the items of all states, by rule, dot and what comes; the states in the order in which they are found.
func TestItems(t *testing.T) {
	g := read(t, pairs)
	checkItems(t, g, api.TableFull, []string{
		"-1.0$ 0.0$ 1.0a 1.0b 2.0a 2.0b",
		"1.0a 1.0b 1.1a 1.1b 2.0a 2.0b",
		"2.1a 2.1b",
		"0.1$ 1.0$ 2.0$",
		"-1.1$",
		"1.2a 1.2b",
		"1.0$ 1.1$ 2.0$",
		"2.1$",
		"0.2$",
		"1.2$",
	})
	checkItems(t, g, api.TableMerged, []string{
		"-1.0$ 0.0$ 1.0a 1.0b 2.0a 2.0b",
		"1.0$ 1.0a 1.0b 1.1$ 1.1a 1.1b 2.0$ 2.0a 2.0b",
		"2.1$ 2.1a 2.1b",
		"0.1$ 1.0$ 2.0$",
		"-1.1$",
		"1.2$ 1.2a 1.2b",
		"0.2$",
	})
	m, err := table.Merged(g)
	is(t, []any{m, err}, []any{[]int{0, 1, 2, 3, 4, 5, 1, 2, 6, 5}, api.OK})
}

// P3.2: kinds and Lefts are one order of symbols when states are numbered.
func TestOrderOfSymbols(t *testing.T) {
	g := read(t, "tokens b d\nstart c\nc = d\nc = b\nc = a\nc = e\na = d b\ne = b d\n")
	for i, symbol := range split("a b c d e") {
		n, err := table.Reach(g, api.TableFull, []string{symbol})
		is(t, []any{symbol, n, err}, []any{symbol, i + 1, api.OK})
	}
	checkItems(t, g, api.TableFull, []string{
		"-1.0$ 0.0$ 1.0$ 2.0$ 3.0$ 4.0$ 5.0$",
		"2.1$",
		"1.1$ 5.1$",
		"-1.1$",
		"0.1$ 4.1$",
		"3.1$",
		"5.2$",
		"4.2$",
	})
}

// P3.1: what is behind a Left is what the rest of the Right begins with, and what is ahead only if all of the rest is nullable.
func TestClosure(t *testing.T) {
	items := func(text string) string {
		l, err := table.Items(read(t, text), api.TableFull, 0)
		is(t, err, api.OK)
		return plain(l)
	}
	is(t, items("tokens a b c\nstart s\ns = x y z\nx =\ny = b\ny =\nz = c\nz =\n"), "-1.0$ 0.0$ 1.0$ 1.0b 1.0c")
	is(t, items("tokens a b c\nstart s\ns = x y c\nx =\ny = b\ny =\n"), "-1.0$ 0.0$ 1.0b 1.0c")
	is(t, items("tokens a b c\nstart s\ns = s a\ns = s b\ns =\n"), "-1.0$ 0.0$ 0.0a 0.0b 1.0$ 1.0a 1.0b 2.0$ 2.0a 2.0b")
	is(t, items("tokens a b c\nstart s\ns = x y\nx = x y\nx = a\ny = b\n"), "-1.0$ 0.0$ 1.0b 2.0b")
	is(t, items("tokens\nstart s\ns = s s\ns =\n"), "-1.0$ 0.0$ 1.0$")
	is(t, items("tokens\nstart s\ns = s\n"), "-1.0$ 0.0$")
	is(t, items("tokens a\nstart s\ns = t t\nt =\n"), "-1.0$ 0.0$ 1.0$")
}

// P3.1: a barren symbol begins with nothing of its own, so there is nothing that could come behind a Left ahead of it.
func TestBarren(t *testing.T) {
	g := read(t, "tokens a b\nstart s\ns = t z\ns = a\nt = b\nz = z\n")
	checkItems(t, g, api.TableFull, []string{
		"-1.0$ 0.0$ 1.0$",
		"1.1$",
		"-1.1$",
		"0.1$ 3.0$",
		"0.2$ 3.1$",
	})
	_, err := table.Reach(g, api.TableFull, []string{"b"})
	is(t, err, api.ErrRule)
	checkItems(t, read(t, "tokens a b\nstart s\ns = t z\nt = b\nz = a z\n"), api.TableMerged, []string{
		"-1.0$ 0.0$ 1.0a",
		"1.1a",
		"-1.1$",
		"0.1$ 2.0$",
		"2.0$ 2.1$",
		"0.2$",
		"2.2$",
	})
}

// P3.2: unreached rules are in no state.
func TestUnreached(t *testing.T) {
	checkItems(t, read(t, "tokens a\nstart s\ns = a\nu = s\n"), api.TableMerged, []string{"-1.0$ 0.0$", "0.1$", "-1.1$"})
}

func TestReach(t *testing.T) {
	g := read(t, pairs)
	tests := []struct {
		kind    int
		symbols string
		want    int
		err     api.Errno
	}{
		{api.TableFull, "", 0, api.OK},
		{api.TableFull, "a a a b", 2, api.OK},
		{api.TableFull, "c a a b", 7, api.OK},
		{api.TableMerged, "c a a b", 2, api.OK},
		{api.TableFull, "c c", 8, api.OK},
		{api.TableMerged, "c c", 6, api.OK},
		{api.TableFull, "s", 4, api.OK},
		{api.TableFull, "c c c", 0, api.ErrRule},
		{api.TableFull, "s a", 0, api.ErrRule},
		{api.TableFull, "d", 0, api.ErrNone},
		{api.TableFull, "a d s", 0, api.ErrNone},
		{api.TableFull, "s s d", 0, api.ErrRule},
		{api.TableMerged, "s d s", 0, api.ErrNone},
	}
	for _, x := range tests {
		n, err := table.Reach(g, x.kind, split(x.symbols))
		is(t, []any{x.symbols, n, err}, []any{x.symbols, x.want, x.err})
	}
	n, err := table.Reach(g, api.TableFull, []string{"a", ""})
	is(t, []any{n, err}, []any{0, api.ErrNone})
	long := slices.Repeat([]string{"a"}, api.MaxTokens)
	n, err = table.Reach(g, api.TableFull, long)
	is(t, []any{n, err}, []any{1, api.OK})
	n, err = table.Reach(g, api.TableFull, append(long, "d"))
	is(t, []any{n, err}, []any{0, api.ErrLarge})
	n, err = table.Reach(g, api.TableFull, append([]string{"d"}, long...))
	is(t, []any{n, err}, []any{0, api.ErrLarge})
}

func TestAccess(t *testing.T) {
	g := read(t, pairs)
	for i, want := range []string{"", "a", "b", "c", "s", "a c", "c a", "c b", "c c", "c a c"} {
		l, err := table.Access(g, api.TableFull, i)
		is(t, []any{i, l, err}, []any{i, split(want), api.OK})
	}
	for i, want := range []string{"", "a", "b", "c", "s", "a c", "c c"} {
		l, err := table.Access(g, api.TableMerged, i)
		is(t, []any{i, l, err}, []any{i, split(want), api.OK})
	}
}

// P3.2: in a merged table a state can have a shorter list than its number suggests, and another least one.
func TestAccessOfMerged(t *testing.T) {
	g := read(t, "tokens a b c x\nstart s\ns = a a t b\ns = b t\nt = x c\n")
	full, _ := table.Reach(g, api.TableFull, split("a a x"))
	l, err := table.Access(g, api.TableFull, full)
	is(t, []any{l, err}, []any{split("a a x"), api.OK})
	n, _ := table.Reach(g, api.TableMerged, split("a a x"))
	l, err = table.Access(g, api.TableMerged, n)
	is(t, []any{l, err}, []any{split("b x"), api.OK})
}

// P3.2: the errors, in their order.
func TestErrors(t *testing.T) {
	g, wrong := read(t, pairs), api.Grammar{}
	for _, kind := range []int{0, 3, -1, math.MinInt, math.MaxInt} {
		_, a := table.Items(g, kind, -1)
		_, b := table.Size(g, kind)
		_, c := table.Reach(g, kind, []string{""})
		_, d := table.Access(g, kind, -1)
		_, e := table.Make(g, kind)
		_, f := table.Conflicts(g, kind)
		_, h := table.Resolved(g, kind)
		_, i := table.Defaults(g, kind)
		is(t, []any{a, b, c, d, e, f, h, i}, slices.Repeat([]any{api.ErrKind}, 8))
		_, a = table.Items(wrong, kind, -1)
		_, b = table.Size(wrong, kind)
		_, c = table.Reach(wrong, kind, []string{""})
		_, d = table.Access(wrong, kind, -1)
		_, e = table.Make(wrong, kind)
		_, f = table.Conflicts(wrong, kind)
		_, h = table.Resolved(wrong, kind)
		_, i = table.Defaults(wrong, kind)
		is(t, []any{a, b, c, d, e, f, h, i}, slices.Repeat([]any{api.ErrNone}, 8))
	}
	_, err := table.Merged(wrong)
	is(t, err, api.ErrNone)
	wrong.Kinds = []string{"A"}
	_, err = table.Merged(wrong)
	is(t, err, api.ErrName)
	for _, kind := range []int{api.TableFull, api.TableMerged} {
		n, _ := table.Size(g, kind)
		for _, state := range []int{-1, n, math.MinInt, math.MaxInt} {
			l, a := table.Items(g, kind, state)
			m, b := table.Access(g, kind, state)
			is(t, []any{state, l, a, m, b}, []any{state, []api.Item{}, api.ErrNone, []string{}, api.ErrNone})
		}
		_, a := table.Items(g, kind, n-1)
		_, b := table.Access(g, kind, n-1)
		is(t, []any{a, b}, []any{api.OK, api.OK})
	}
}
