package repair_test

import (
	"math"
	"strings"
	"testing"

	"hedgelayer/api"
	"hedgelayer/repair"
)

var ones = api.Prices{Insert: 1, Delete: 1, Replace: 1}

// texts are words as one string each.
func texts(words [][]string) string {
	var list []string
	for _, word := range words {
		list = append(list, strings.Join(word, " "))
	}
	return strings.Join(list, "; ")
}

// P9.2: the least cost, the least fixes, all words, and what is kept.
func TestRepair(t *testing.T) {
	const brackets = "tokens a b\nstart s\ns = s a s b\ns =\n"
	const twoWords = "tokens a b c\nstart s\ns = a b\ns = a c\n"
	const empty = "tokens a\nstart s\ns =\n"
	tests := []struct {
		grammar, word string
		p             api.Prices
		cost          int
		fixes, words  string
		kept          int
	}{
		{sumsText, "num num", ones, 1, "0 -", "num; num plus num", 1},
		{sumsText, "num plus num", ones, 0, "", "num plus num", 3},
		{sumsText, "num plus plus num", api.Prices{Insert: 5, Delete: 3, Replace: 1}, 3, "1 -", "num plus num", 2},
		{sumsText, "num plus plus plus num", api.Prices{Insert: 5, Delete: 3, Replace: 1}, 1, "2 = num", "num plus num plus num", 2},
		{sumsText, "plus", ones, 1, "0 = num", "num", 0},
		{sumsText, "plus", api.Prices{Insert: 1, Delete: 1, Replace: 3}, 2, "0 + num, 0 -", "num; num plus num", 0},
		{sumsText, "plus", api.Prices{Insert: 1, Delete: 1, Replace: 2}, 2, "0 = num", "num; num plus num", 0}, // one fix rather than two
		{sumsText, "", ones, 1, "0 + num", "num", 0},
		{sumsText, "num plus", ones, 1, "1 -", "num; num plus num", 2},
		{sumsText, "num plus", api.Prices{Insert: 1, Delete: 2, Replace: 9}, 1, "2 + num", "num plus num", 2},
		{empty, "a a a", ones, 3, "0 -, 1 -, 2 -", "", 0},
		{empty, "", ones, 0, "", "", 0},
		{brackets, "b a", ones, 2, "0 + a, 1 -", "; a b; a b a b", 0},   // a b: by two replacements, too
		{brackets, "a a b", ones, 1, "0 -", "a b; a a b b; a b a b", 3}, // with a b at the end
		{twoWords, "a", ones, 1, "1 + b", "a b; a c", 1},
		{twoWords, "b", ones, 1, "0 + a", "a b", 0},
		{twoWords, "b c", ones, 1, "0 = a", "a c", 0},
		{twoWords, "a b c", ones, 1, "1 -", "a b; a c", 2},
		{twoWords, "a a", ones, 1, "1 = b", "a b; a c", 1},
		{"tokens a\nstart s\ns = a a s\ns =\n", "a a a", ones, 1, "0 + a", "a a; a a a a", 3},
		{"tokens a\nstart s\ns = s\ns = t s t\ns = a a\nt =\nt = s\n", "a a a", ones, 1, "0 + a", "a a; a a a a", 3}, // loops
		{"tokens a b\nstart s\ns = a / 7\ns = v b\nv = v\n", "b", ones, 1, "0 = a", "a", 0},                          // levels and barren symbols
	}
	for _, x := range tests {
		g, word := read(t, x.grammar), split(x.word)
		cost, err := repair.Distance(g, word, x.p)
		is(t, []any{x, cost, err}, []any{x, x.cost, api.OK})
		l, cost, err := repair.Repair(g, word, x.p)
		is(t, []any{x, l, cost, err}, []any{x, fixes(x.fixes), x.cost, api.OK})
		words, err := repair.Repaired(g, word, x.p)
		is(t, []any{x, texts(words), err}, []any{x, x.words, api.OK})
		kept, err := repair.Kept(g, word, x.p)
		is(t, []any{x, kept, err}, []any{x, x.kept, api.OK})
		for most := range x.cost + 3 {
			ok, err := repair.Within(g, word, x.p, most)
			is(t, []any{x, most, ok, err}, []any{x, most, x.cost <= most, api.OK})
		}
	}
}

// P9.2: what Within takes.
func TestWithin(t *testing.T) {
	g := sums(t)
	for most, want := range map[int]api.Errno{-1: api.ErrArg, math.MinInt: api.ErrArg, 0: api.OK, math.MaxInt: api.OK} {
		ok, err := repair.Within(g, split("plus plus"), ones, most)
		is(t, []any{most, ok, err}, []any{most, most > 0, want})
	}
	_, err := repair.Within(read(t, "tokens a\nstart s\ns = s\n"), nil, ones, -1)
	is(t, err, api.ErrState)
}

// P9.2: the cost from a word to another one.
func TestBetween(t *testing.T) {
	p := api.Prices{Insert: 2, Delete: 3, Replace: 4}
	tests := []struct {
		a, b string
		p    api.Prices
		want int
	}{
		{"", "", ones, 0},
		{"num plus", "plus num", ones, 2},
		{"", "a b", p, 4},
		{"a b", "", p, 6},
		{"a", "b", p, 4},
		{"a", "b", api.Prices{Insert: 2, Delete: 3, Replace: 6}, 5},
		{"a b c", "a c", p, 3},
		{"a c", "a b c", p, 2},
		{"a b c d", "b c d e", p, 5},
		{"a ab", "aa b", p, 8},
		{"k i t t e n", "s i t t i n g", ones, 3},
	}
	for _, x := range tests {
		cost, err := repair.Between(split(x.a), split(x.b), x.p)
		is(t, []any{x, cost, err}, []any{x, x.want, api.OK})
	}
}

// P9.2, Z4: the errors of Between, in their order.
func TestBetweenErrors(t *testing.T) {
	long, full := repeated("A", 41), repeated("b", 40)
	zero := api.Prices{}
	tests := []struct {
		a, b []string
		p    api.Prices
		want api.Errno
	}{
		{full, full, ones, api.OK},
		{long, nil, zero, api.ErrLarge},
		{split("A"), long, zero, api.ErrLarge},
		{split("A"), nil, zero, api.ErrName},
		{nil, split("A"), zero, api.ErrName},
		{full, []string{"b", ""}, ones, api.ErrName},
		{full, []string{strings.Repeat("b", 41)}, ones, api.ErrName},
		{[]string{strings.Repeat("b", 40)}, full, ones, api.OK},
		{full, full, zero, api.ErrArg},
		{make([]string, 200_000), nil, ones, api.ErrLarge},
	}
	for i, x := range tests {
		_, err := repair.Between(x.a, x.b, x.p)
		is(t, []any{i, err}, []any{i, x.want})
	}
}

// P9.2, P9.3, Z4: the errors of all functions with a grammar and a word, in their order.
func TestWordErrors(t *testing.T) {
	none := read(t, "tokens a\nstart s\ns = s\n")
	long := huge(5, 1)
	tests := []struct {
		g      api.Grammar
		word   []string
		priced api.Errno // with wrong prices
		want   api.Errno
	}{
		{api.Grammar{}, repeated("b", 41), api.ErrNone, api.ErrNone},
		{api.Grammar{Kinds: []string{""}}, repeated("b", 41), api.ErrName, api.ErrName},
		{none, repeated("b", 41), api.ErrLarge, api.ErrLarge},
		{none, make([]string, 200_000), api.ErrLarge, api.ErrLarge},
		{none, split("a b a"), api.ErrNone, api.ErrNone},
		{none, split("a s"), api.ErrNone, api.ErrNone},
		{none, repeated("a", 40), api.ErrArg, api.ErrState},
		{long, repeated("a", 40), api.ErrArg, api.ErrFull},
	}
	for i, x := range tests {
		for _, c := range calls() {
			if strings.Contains(" CheckFixes Apply Cost Between Text Read ", " "+c.name+" ") {
				continue
			}
			got := c.run(given{g: x.g, word: x.word, p: ones, most: -1})
			is(t, []any{i, c.name, got[len(got)-1]}, []any{i, c.name, x.want})
			want := x.priced
			if c.name == "Finish" || c.name == "Holes" {
				want = x.want
			}
			got = c.run(given{g: x.g, word: x.word, most: -1})
			is(t, []any{i, c.name, got[len(got)-1]}, []any{i, c.name, want})
		}
	}
}
