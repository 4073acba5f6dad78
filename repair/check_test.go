package repair_test

import (
	"fmt"
	"math"
	"slices"
	"strings"
	"testing"

	"hedgelayer/api"
	"hedgelayer/gram"
	"hedgelayer/repair"
)

func is(t *testing.T, got, want any) {
	t.Helper()
	if fmt.Sprint(got) != fmt.Sprint(want) {
		t.Errorf("got %v, want %v", got, want)
	}
}

// split is a word whose kinds are told with blanks between.
func split(s string) []string { return strings.Fields(s) }

// repeated is a word of one kind.
func repeated(kind string, n int) []string { return slices.Repeat([]string{kind}, n) }

// read reads a grammar that must be right.
func read(t *testing.T, text string) api.Grammar {
	t.Helper()
	g, _, err := gram.Read(text)
	if err != api.OK {
		t.Fatalf("%v: %s", err, text)
	}
	return g
}

const sumsText = "tokens num plus\nstart e\ne = e plus t\ne = t\nt = num\n"

func sums(t *testing.T) api.Grammar {
	t.Helper()
	return read(t, sumsText)
}

// fixes are those whose lines are told with commas between.
func fixes(s string) []api.Fix {
	var l []api.Fix
	for line := range strings.SplitSeq(s, ",") {
		words := strings.Fields(line)
		if len(words) < 2 {
			continue
		}
		f := api.Fix{What: 1 + strings.Index("+-=", words[1])}
		fmt.Sscan(words[0], &f.At)
		if len(words) > 2 {
			f.Kind = words[2]
		}
		l = append(l, f)
	}
	return l
}

// inserts are n fixes that insert at the place 0.
func inserts(n int, kind string) []api.Fix {
	return slices.Repeat([]api.Fix{{What: api.FixInsert, Kind: kind}}, n)
}

// P9.1: what is wrong with fixes, and what is just right.
func TestCheckFixes(t *testing.T) {
	g := sums(t)
	tests := []struct {
		word, fixes string
		want        api.Errno
	}{
		{"num plus", "", api.OK},
		{"", "", api.OK},
		{"", "0 + num", api.OK},
		{"", "0 -", api.ErrArg},
		{"", "0 = num", api.ErrArg},
		{"", "1 + num", api.ErrArg},
		{"num plus", "2 + num", api.OK},
		{"num plus", "3 + num", api.ErrArg},
		{"num plus", "-1 + num", api.ErrArg},
		{"num plus", "1 -", api.OK},
		{"num plus", "2 -", api.ErrArg},
		{"num plus", "-1 -", api.ErrArg},
		{"num plus", "1 = num", api.OK},
		{"num plus", "2 = num", api.ErrArg},
		{"num plus", "-1 = num", api.ErrArg},
		{"num plus", "1 - num", api.ErrForm},
		{"num plus", "1 - x", api.ErrForm},
		{"num plus", "1 + x", api.ErrNone},
		{"num plus", "1 +", api.ErrNone},
		{"num plus", "1 + e", api.ErrNone},
		{"num plus", "1 = x", api.ErrNone},
		{"num plus", "1 =", api.ErrNone},
		{"num plus", "0 = t", api.ErrNone},
		{"num plus", "0 = num", api.ErrTwice},
		{"num plus", "1 = plus", api.ErrTwice},
		{"num plus", "0 + num, 0 + num, 0 -, 1 + num, 1 + num, 1 = num, 2 + num, 2 + num", api.OK},
		{"num plus", "0 + plus, 0 + num, 0 + plus", api.OK},
		{"num plus", "1 + num, 0 + num", api.ErrOrder},
		{"num plus", "1 -, 0 -", api.ErrOrder},
		{"num plus", "0 -, 0 -", api.ErrOrder},
		{"num plus", "0 = plus, 0 = plus", api.ErrOrder},
		{"num plus", "0 -, 0 + num", api.ErrOrder},
		{"num plus", "0 = plus, 0 + num", api.ErrOrder},
		{"num plus", "0 = plus, 0 -", api.ErrOrder},
		{"num plus", "0 -, 0 = plus", api.ErrConflict},
		{"num plus", "0 + num, 0 -, 0 = plus", api.ErrConflict},
		{"num plus", "0 -, 1 = num", api.OK},
		{"num plus", "0 = plus, 1 -", api.OK},
		{"num x", "0 -", api.ErrNone},
		{"num e", "", api.ErrNone},
	}
	for _, x := range tests {
		word, l := split(x.word), fixes(x.fixes)
		is(t, []any{x, repair.CheckFixes(g, word, l)}, []any{x, x.want})
		_, err := repair.Apply(g, word, l)
		is(t, []any{x, err}, []any{x, x.want})
	}
}

// P9.1, Z6: numbers that are no What, and At out of all ranges.
func TestCheckFixNumbers(t *testing.T) {
	g := sums(t)
	for _, n := range []int{0, -1, 4, math.MaxInt, math.MinInt} {
		is(t, repair.CheckFixes(g, split("num num num"), []api.Fix{{What: n, Kind: "num"}}), api.ErrKind)
		_, err := repair.Cost([]api.Fix{{What: n}}, ones)
		is(t, err, api.ErrKind)
		_, err = repair.Text([]api.Fix{{What: n, Kind: "num"}})
		is(t, err, api.ErrKind)
	}
	for _, n := range []int{math.MaxInt, math.MinInt, 4, 5} {
		for what := 1; what <= 3; what++ {
			is(t, repair.CheckFixes(g, split("num num num"), []api.Fix{{At: n, What: what, Kind: "num"}}), api.ErrArg)
		}
	}
}

// P9.1, Z4: the first error of the first wrong fix is returned, and those of the grammar and of the word come before.
func TestCheckFixesOrder(t *testing.T) {
	g := sums(t)
	wrong := []api.Fix{{What: 9, At: -1, Kind: "x"}}
	long := repeated("num", 41)
	unknown := slices.Concat(repeated("num", 39), []string{"x"})
	many := inserts(81, "x")
	tests := []struct {
		g    api.Grammar
		word []string
		l    []api.Fix
		want api.Errno
	}{
		{api.Grammar{Kinds: []string{"B"}}, append(long, "x"), many, api.ErrName},
		{api.Grammar{}, append(long, "x"), many, api.ErrNone},
		{g, append(long, "x"), many, api.ErrLarge},
		{g, make([]string, 200_000), many, api.ErrLarge},
		{g, unknown, many, api.ErrNone},
		{g, repeated("num", 40), many, api.ErrLarge},
		{g, nil, make([]api.Fix, 200_000), api.ErrLarge},
		{g, repeated("num", 40), inserts(80, "num"), api.OK},
		{g, repeated("num", 40), inserts(80, "x"), api.ErrNone},
		{g, nil, wrong, api.ErrKind},
		{g, split("num"), fixes("5 - x"), api.ErrArg},
		{g, split("num"), fixes("5 = x"), api.ErrArg},
		{g, split("num"), fixes("0 + num, 0 - x, 0 + num"), api.ErrForm},
		{g, split("num num"), fixes("1 + num, 0 + x"), api.ErrNone},
		{g, split("num num"), fixes("1 + num, 0 = num"), api.ErrTwice},
		{g, split("num num"), fixes("0 -, 0 = num"), api.ErrTwice},
		{g, split("num num"), fixes("1 -, 0 -, 9 -"), api.ErrOrder},
		{g, split("num num"), fixes("1 -, 9 -, 0 -"), api.ErrArg},
	}
	for i, x := range tests {
		is(t, []any{i, repair.CheckFixes(x.g, x.word, x.l)}, []any{i, x.want})
		word, err := repair.Apply(x.g, x.word, x.l)
		is(t, []any{i, err}, []any{i, x.want})
		is(t, []any{i, word == nil}, []any{i, x.want != api.OK})
	}
}

// P9.1: fixes are made at once, the inserted kinds in their order.
func TestApply(t *testing.T) {
	g := read(t, "tokens a b c d\nstart s\ns = a\n")
	tests := []struct{ word, fixes, want string }{
		{"a b c", "", "a b c"},
		{"", "", ""},
		{"", "0 + c, 0 + a", "c a"},
		{"a b c", "0 -", "b c"},
		{"a b c", "2 -", "a b"},
		{"a b c", "0 -, 1 -, 2 -", ""},
		{"a b c", "1 = d", "a d c"},
		{"a b c", "0 = b, 1 = a, 2 = a", "b a a"},
		{"a b c", "0 + d", "d a b c"},
		{"a b c", "1 + d, 1 + a, 1 + d", "a d a d b c"},
		{"a b c", "3 + d, 3 + c", "a b c d c"},
		{"a b c", "0 + d, 0 -, 1 + c, 1 = a, 2 + b, 2 + a, 3 + d", "d c a b a c d"},
	}
	for _, x := range tests {
		word, err := repair.Apply(g, split(x.word), fixes(x.fixes))
		is(t, []any{x, word, err}, []any{x, split(x.want), api.OK})
	}
}

// P9.1: the sum of the prices.
func TestCost(t *testing.T) {
	p := api.Prices{Insert: 1, Delete: 10, Replace: 100}
	for s, want := range map[string]int{"": 0, "0 + a": 1, "0 -": 10, "0 = a": 100, "0 + a, 0 + b, 0 -, 1 = b": 112, "7 -, 7 -": 20} {
		cost, err := repair.Cost(fixes(s), p)
		is(t, []any{s, cost, err}, []any{s, want, api.OK})
	}
	p = api.Prices{Insert: 100, Delete: 100, Replace: 100}
	cost, err := repair.Cost(inserts(80, ""), p)
	is(t, []any{cost, err}, []any{8_000, api.OK})
	_, err = repair.Cost(inserts(81, ""), p)
	is(t, err, api.ErrLarge)
	_, err = repair.Cost(make([]api.Fix, 200_000), api.Prices{})
	is(t, err, api.ErrLarge)
	_, err = repair.Cost([]api.Fix{{What: 1}, {What: 4}}, api.Prices{})
	is(t, err, api.ErrKind)
}

// wrongPrices are prices one of which is not from 1 to MaxPrice.
func wrongPrices() []api.Prices {
	var list []api.Prices
	for _, n := range []int{0, -1, 101, math.MaxInt, math.MinInt} {
		list = append(list, api.Prices{Insert: n, Delete: 1, Replace: 1}, api.Prices{Insert: 1, Delete: n, Replace: 1}, api.Prices{Insert: 1, Delete: 1, Replace: n})
	}
	return list
}

// P9.1, P9.2: prices are from 1 to MaxPrice.
func TestPrices(t *testing.T) {
	g := sums(t)
	for _, p := range wrongPrices() {
		errs := []api.Errno{}
		for _, c := range calls() {
			if strings.Contains(" Cost Distance Within Kept Repair Repaired Between ", " "+c.name+" ") {
				got := c.run(given{g: g, word: split("num"), other: split("num"), p: p})
				errs = append(errs, got[len(got)-1].(api.Errno))
			}
		}
		is(t, []any{p, errs}, []any{p, slices.Repeat([]api.Errno{api.ErrArg}, 7)})
	}
	n, err := repair.Distance(g, nil, api.Prices{Insert: 100, Delete: 100, Replace: 100})
	is(t, []any{n, err}, []any{100, api.OK})
}
