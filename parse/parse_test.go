package parse_test

import (
	"fmt"
	"strings"
	"testing"

	"hedgelayer/api"
	"hedgelayer/gram"
	"hedgelayer/parse"
)

// checkTree compares the tree of a word.
func checkTree(t *testing.T, g api.Grammar, word, want string) {
	t.Helper()
	x, at, err := parse.Parse(g, plain(split(word)...))
	is(t, []any{word, at, err}, []any{word, 0, api.OK})
	bare := strings.ReplaceAll(dump(t, x), `""""`, "")
	is(t, []any{word, bare}, []any{word, want})
	ok, at, err := parse.Accepts(g, split(word))
	is(t, []any{word, ok, at, err}, []any{word, true, 0, api.OK})
}

// checkWrong compares the first wrong token of a word.
func checkWrong(t *testing.T, g api.Grammar, word string, want int) {
	t.Helper()
	x, at, err := parse.Parse(g, plain(split(word)...))
	is(t, []any{word, x, at, err}, []any{word, api.Tree{}, want, api.ErrRule})
	ok, at, err := parse.Accepts(g, split(word))
	is(t, []any{word, ok, at, err}, []any{word, false, want, api.OK})
}

// P5.2: leaves have all that tokens have.
func TestParse(t *testing.T) {
	l := []api.Token{{Kind: "num", Lead: "\n", Text: "1"}, {Kind: "plus", Lead: " ", Text: "+"}, {Kind: "num", Text: "\xff"}}
	x, at, err := parse.Parse(read(t, sums), l)
	is(t, []any{at, err, dump(t, x)}, []any{0, api.OK, `(0 (1 (2 num"\0a""1")) plus" ""+" (2 num"""\ff"))`})
	g := read(t, sums)
	checkTree(t, g, "num", "(1 (2 num))")
	checkTree(t, g, "num plus num plus num", "(0 (0 (1 (2 num)) plus (2 num)) plus (2 num))")
}

// P5.2: of nodes without Kids, also in a word without tokens.
func TestEmptyRights(t *testing.T) {
	g := read(t, "tokens a b\nstart s\ns = x y x\nx =\ny = a\ny =\n")
	checkTree(t, g, "", "(0 (1) (3) (1))")
	checkTree(t, g, "a", "(0 (1) (2 a) (1))")
	checkWrong(t, g, "b", 0)
	checkWrong(t, g, "a a", 1)
	checkTree(t, read(t, "tokens\nstart s\ns =\n"), "", "(0)")
	g = read(t, "tokens a\nstart s\ns = s a\ns =\n")
	checkTree(t, g, "", "(1)")
	checkTree(t, g, "a a", "(0 (0 (1) a) a)")
}

// P5.2: the first wrong token, which can be the end.
func TestFirstWrong(t *testing.T) {
	g := read(t, sums)
	checkWrong(t, g, "", 0)
	checkWrong(t, g, "plus", 0)
	checkWrong(t, g, "num plus", 2)
	checkWrong(t, g, "num num", 1)
	checkWrong(t, g, "num plus plus plus", 2)
	checkWrong(t, g, "num plus num plus", 4)
	checkWrong(t, g, "num plus num num plus", 3)
	checkWrong(t, read(t, "tokens a\nstart s\ns = s a\n"), "", 0)
}

// P5.1: what the table does by levels is done.
func TestLevels(t *testing.T) {
	text := "tokens n p t\nstart e\ne = e p e / %d\ne = e t e / %d\ne = n\n"
	g := read(t, fmt.Sprintf(text, 1, 2))
	checkTree(t, g, "n p n t n", "(0 (2 n) p (1 (2 n) t (2 n)))")
	checkTree(t, g, "n t n p n", "(0 (1 (2 n) t (2 n)) p (2 n))")
	checkTree(t, g, "n p n p n", "(0 (0 (2 n) p (2 n)) p (2 n))")
	g = read(t, fmt.Sprintf(text, 2, 1))
	checkTree(t, g, "n p n t n", "(1 (0 (2 n) p (2 n)) t (2 n))")
	checkWrong(t, g, "n p t", 2)
	// The kind is not shifted where its rule has won, so this word of the language is not accepted.
	g = read(t, "tokens a b\nstart s\ns = a b / 1\ns = x b b\nx = a / 1\n")
	checkTree(t, g, "a b b", "(1 (2 a) b b)")
	checkWrong(t, g, "a b", 2)
}

// P5.3: what can come, and whether the end can.
func TestExpected(t *testing.T) {
	g := read(t, "tokens a b c d\nstart s\ns = c x b\ns = x d\ns =\nx = x a\nx =\n")
	tests := []struct {
		word, kinds string
		end         bool
	}{
		{"", "a c d", true}, {"a", "a d", false}, {"c", "a b", false}, {"c a", "a b", false}, {"c b", "", true}, {"d", "", true},
	}
	for _, x := range tests {
		kinds, end, err := parse.Expected(g, split(x.word))
		is(t, []any{x.word, kinds, end, err}, []any{x.word, split(x.kinds), x.end, api.OK})
	}
	kinds, end, err := parse.Expected(g, split("a b"))
	is(t, []any{kinds, end, err}, []any{[]string{}, false, api.ErrRule})
	kinds, end, err = parse.Expected(read(t, sums), split("num plus"))
	is(t, []any{kinds, end, err}, []any{[]string{"num"}, false, api.OK})
}

// P5.3: the symbols before anything that comes is looked at, and their trees.
func TestStack(t *testing.T) {
	g := read(t, sums)
	tests := []struct{ word, symbols, trees string }{
		{"", "", ""},
		{"num", "num", "num"},
		{"num plus", "e plus", "(1 (2 num)) plus"},
		{"num plus num", "e plus num", "(1 (2 num)) plus num"},
		{"num plus num plus", "e plus", "(0 (1 (2 num)) plus (2 num)) plus"},
	}
	for _, x := range tests {
		list, err := parse.Stack(g, split(x.word))
		is(t, []any{x.word, list, err}, []any{x.word, split(x.symbols), api.OK})
		checkPartial(t, g, x.word, x.trees, len(split(x.word)))
	}
	list, err := parse.Stack(g, split("num num"))
	is(t, []any{list, err}, []any{[]string{}, api.ErrRule})
	checkPartial(t, g, "num num", "num", 1)
	checkPartial(t, g, "num plus plus num", "(1 (2 num)) plus", 2)
	checkPartial(t, g, "plus", "", 0)
	g = read(t, "tokens a b\nstart s\ns = x a y b\nx =\ny =\n")
	list, err = parse.Stack(g, split("a"))
	is(t, []any{list, err}, []any{split("x a"), api.OK})
	list, err = parse.Stack(g, split("a b"))
	is(t, []any{list, err}, []any{split("x a y b"), api.OK})
	checkPartial(t, g, "a b", "(1) a (2) b", 2)
}

// checkPartial compares the trees of the tokens that are not wrong, and how many these are.
func checkPartial(t *testing.T, g api.Grammar, word, want string, count int) {
	t.Helper()
	list, n, err := parse.Partial(g, plain(split(word)...))
	var all []string
	for _, x := range list {
		all = append(all, strings.ReplaceAll(dump(t, x), `""""`, ""))
	}
	is(t, []any{word, strings.Join(all, " "), n, err}, []any{word, want, count, api.OK})
}

// P5.3: rules that are reduced before a token turns out to be wrong do not count. Ahead of a, x is reduced; but n stands ahead of what begins with nothing, so it begins with nothing in the table, too.
func TestReducedInVain(t *testing.T) {
	g := read(t, "tokens a b\nstart s\ns = b x n w\ns = b b\nw = w b\nx =\nn = a\n")
	checkPartial(t, g, "b a", "b", 1)
	checkPartial(t, g, "b a b", "b", 1)
	checkPartial(t, g, "b b a", "b b", 2)
	checkWrong(t, g, "b a", 1)
	kinds, end, err := parse.Expected(g, split("b"))
	is(t, []any{kinds, end, err}, []any{split("b"), false, api.OK})
	list, err := parse.Stack(g, split("b"))
	is(t, []any{list, err}, []any{split("b"), api.OK})
}

// P5.4: shifts and reduces with the states behind them.
func TestSteps(t *testing.T) {
	g := read(t, sums)
	// The states: 1 behind e, 2 behind num, 3 behind t, 4 behind e plus, 5 and 6 behind num and t there.
	l, err := parse.Steps(g, split("num plus num"))
	is(t, []any{l, err}, []any{[]api.Step{{Rule: -1, State: 2}, {Rule: 2, State: 3}, {Rule: 1, State: 1}, {Rule: -1, State: 4}, {Rule: -1, State: 2}, {Rule: 2, State: 5}, {Rule: 0, State: 1}}, api.OK})
	l, err = parse.Steps(g, split("num plus"))
	is(t, []any{l, err}, []any{[]api.Step{}, api.ErrRule})
	l, err = parse.Steps(read(t, "tokens\nstart s\ns =\n"), nil)
	is(t, []any{l, err}, []any{[]api.Step{{Rule: 0, State: 1}}, api.OK})
}

// P5.4: the lists from Start to a word, in which the last Left is replaced.
func TestDerivation(t *testing.T) {
	joined := func(g api.Grammar, word string) string {
		lists, err := parse.Derivation(g, split(word))
		is(t, err, api.OK)
		var all []string
		for _, list := range lists {
			all = append(all, strings.Join(list, " "))
		}
		return strings.Join(all, "; ")
	}
	g := read(t, sums)
	is(t, joined(g, "num"), "e; t; num")
	is(t, joined(g, "num plus num"), "e; e plus t; e plus num; t plus num; num plus num")
	g = read(t, "tokens a b\nstart s\ns = x y x b\nx =\ny = a\n")
	is(t, joined(g, "a b"), "s; x y x b; x y b; x a b; a b")
	is(t, joined(read(t, "tokens\nstart s\ns =\n"), ""), "s; ")
	g = read(t, "tokens a b\nstart s\ns = a s b\ns =\n")
	is(t, joined(g, "a a b b"), "s; a s b; a a s b b; a a b b")
	lists, err := parse.Derivation(g, split("a b b"))
	is(t, []any{lists, err}, []any{[][]string{}, api.ErrRule})
}

// P5.4: whether each short word has one tree, for which levels do not matter.
func TestUnique(t *testing.T) {
	eight := "a a a a a a a a"
	tests := []struct {
		text   string
		unique bool
		err    api.Errno
	}{
		{sums, true, api.OK},
		{"tokens num plus\nstart e\ne = e plus e / 1\ne = num\n", false, api.OK},
		// By these levels only the words that end with b are accepted; those that end with a have one tree, too.
		{"tokens a b\nstart s\ns = x a\ns = y b\nx = a z / 1\ny = a z / 2\nz = a z / 2\nz = / 1\n", true, api.OK},
		{"tokens a\nstart s\ns = a t\ns = a u\nt = / 1\nu =\n", false, api.OK},
		{"tokens a\nstart s\ns = " + eight + "\ns = t\nt = " + eight + " / 1\n", false, api.OK},
		{"tokens a\nstart s\ns = a " + eight + "\ns = t\nt = a " + eight + " / 1\n", true, api.OK},
		{"tokens a\nstart s\ns = s / 1\ns = a\n", false, api.ErrState},
		{"tokens a\nstart s\ns = s / 1\ns = a " + eight + "\n", true, api.OK}, // no word is asked for its trees
		{"tokens a\nstart s\ns = s a\n", true, api.OK},
		{"tokens a\nstart s\ns = a\nt = t\nt = a\n", true, api.OK},
		// The word of 1 token has 400 trees, and that of 8 tokens more than can be counted.
		{"tokens a\nstart s\ns" + " =" + strings.Repeat(" t", 20) + "\nt =" + strings.Repeat(" u", 20) + "\nu = a / 1\nu = / 1\n", false, api.ErrFull},
	}
	for _, x := range tests {
		unique, err := parse.Unique(read(t, x.text))
		is(t, []any{x.text, unique, err}, []any{x.text, x.unique, x.err})
	}
}

// P5.1: Unique asks for the errors of the table first, too, whether short words have one tree or more.
func TestUniqueWithoutTable(t *testing.T) {
	eight := "a a a a a a a a"
	many := "tokens a b c d e f g\nstart s\ns = s s\ns = a\ns = b\ns = c\ns = d\ns = e\ns = f\ns = g\n"
	conflicts := []string{
		"tokens num plus\nstart e\ne = e plus e\ne = num\n",
		"tokens a b\nstart s\ns = x a b\ns = y a a\nx =\ny =\n",
		"tokens a b\nstart s\ns = x a\ns = y b\nx = a z\ny = a z\nz = a z\nz =\n", // no table has just one deed there
		"tokens a\nstart s\ns = a t\ns = a u\nt =\nu =\n",
		"tokens a\nstart s\ns = a " + eight + "\ns = t\nt = a " + eight + "\n",
		// Levels that leave a conflict.
		"tokens a b\nstart s\ns = x a b\ns = y a a\nx = / 1\ny = / 1\n",
		"tokens num plus\nstart e\ne = e plus e\ne = num / 1\n",
		// What is wrong with their words or trees comes behind.
		"tokens a\nstart s\ns = s\ns = a\n",
		"tokens a\nstart s\ns = s\ns = a " + eight + "\n",
		"tokens a\nstart s\ns" + " =" + strings.Repeat(" t", 20) + "\nt =" + strings.Repeat(" u", 20) + "\nu = a\nu =\n",
		many,
	}
	for _, text := range conflicts {
		unique, err := parse.Unique(read(t, text))
		is(t, []any{text, unique, err}, []any{text, false, api.ErrConflict})
	}
	_, err := gram.Words(read(t, many), api.MaxShort)
	is(t, err, api.ErrFull)
	unique, err := parse.Unique(api.Grammar{})
	is(t, []any{unique, err}, []any{false, api.ErrNone})
	unique, err = parse.Unique(contexts())
	is(t, []any{unique, err}, []any{true, api.OK})
	unique, err = parse.Unique(tooMany())
	is(t, []any{unique, err}, []any{false, api.ErrFull})
}

// P5.4: MaxWords words are not too many; one more is.
func TestUniqueOfManyWords(t *testing.T) {
	g := api.Grammar{Start: "s", Rules: []api.Rule{{Left: "s", Right: split("x y")}}}
	for i := range 50 {
		kind := fmt.Sprintf("k%02d", i)
		g.Kinds = append(g.Kinds, kind)
		g.Rules = append(g.Rules, api.Rule{Left: "x", Right: []string{kind}})
		if i < 40 {
			g.Rules = append(g.Rules, api.Rule{Left: "y", Right: []string{kind}})
		}
	}
	unique, err := parse.Unique(g)
	is(t, []any{unique, err}, []any{true, api.OK})
	g.Rules = append(g.Rules, api.Rule{Left: "s", Right: split("k00")})
	unique, err = parse.Unique(g)
	is(t, []any{unique, err}, []any{false, api.ErrFull})
}
