package parse_test

import (
	"fmt"
	"math/rand/v2"
	"reflect"
	"slices"
	"testing"

	"hedgelayer/api"
	"hedgelayer/gram"
	"hedgelayer/parse"
	"hedgelayer/table"
	"hedgelayer/tree"
)

// These tests compare the functions with plain ways to find the same, in many small grammars.

// randomGrammar has at most three kinds and four Lefts, and levels up to most.
func randomGrammar(r *rand.Rand, most int) api.Grammar {
	g := api.Grammar{Kinds: []string{"a", "m", "z"}[:1+r.IntN(3)], Start: "s"}
	lefts := []string{"s", "b", "n", "u"}[:1+r.IntN(4)]
	symbols := append(slices.Clone(lefts), g.Kinds...)
	for range len(lefts) + r.IntN(4) {
		rule := api.Rule{Left: lefts[r.IntN(len(lefts))], Level: r.IntN(most + 1)}
		for range r.IntN(4) {
			rule.Right = append(rule.Right, symbols[r.IntN(len(symbols))])
		}
		g.Rules = append(g.Rules, rule)
	}
	return g
}

// eachGrammar calls test with many grammars that have a table, with levels up to most.
func eachGrammar(t *testing.T, count, most int, test func(g api.Grammar)) {
	t.Helper()
	r := rand.New(rand.NewPCG(7, uint64(most)))
	for count > 0 {
		g := randomGrammar(r, most)
		if _, err := table.Make(g, api.TableFull); err != api.OK {
			continue
		}
		count--
		test(g)
		if t.Failed() {
			s, _ := gram.Text(g)
			t.Fatalf("of the grammar\n%s", s)
		}
	}
}

// allWords are all words of kinds with at most most tokens.
func allWords(kinds []string, most int) [][]string {
	list := [][]string{nil}
	for from := 0; most > 0; most-- {
		to := len(list)
		for _, word := range list[from:to] {
			for _, kind := range kinds {
				list = append(list, append(slices.Clone(word), kind))
			}
		}
		from = to
	}
	return list
}

// entry is a state of a stack, with the symbol that leads to it and the tree of this symbol.
type entry struct {
	state  int
	symbol string
	tree   api.Tree
}

// oracle is a plain parser: it makes its stack anew at each step.
type oracle struct {
	g      api.Grammar
	states []api.State
}

// endless is how many rules are taken to be too many: in these small grammars a parser that ends needs fewer for a token.
const endless = 300

// come is the stack after a token, or the end (then with no symbol on top), with the steps; nil if it is wrong, and false if there are too many.
func (o oracle) come(stack []entry, ahead api.Token) ([]entry, []api.Step, bool) {
	var steps []api.Step
	for len(steps) < endless {
		top := o.states[stack[len(stack)-1].state]
		for _, m := range top.Moves {
			if m.Symbol == ahead.Kind {
				e := entry{m.To, ahead.Kind, api.Tree{Rule: -1, Token: ahead}}
				return append(slices.Clone(stack), e), append(steps, api.Step{Rule: -1, State: m.To}), true
			}
		}
		rule := -2
		for _, r := range top.Reduces {
			if r.Ahead == ahead.Kind {
				rule = r.Rule
			}
		}
		if rule == -2 {
			return nil, nil, true
		}
		if rule == -1 {
			return append(slices.Clone(stack), entry{}), steps, true
		}
		stack = o.reduced(stack, rule)
		steps = append(steps, api.Step{Rule: rule, State: stack[len(stack)-1].state})
	}
	return nil, nil, false
}

func (o oracle) reduced(stack []entry, rule int) []entry {
	r := o.g.Rules[rule]
	n := len(stack) - len(r.Right)
	x := api.Tree{Rule: rule}
	for _, e := range stack[n:] {
		x.Kids = append(x.Kids, e.tree)
	}
	for _, m := range o.states[stack[n-1].state].Moves {
		if m.Symbol == r.Left {
			return append(slices.Clone(stack[:n]), entry{m.To, r.Left, x})
		}
	}
	panic("no move by a Left")
}

// wanted is what all functions return for some tokens.
type wanted struct {
	tree     api.Tree
	accepted bool
	at       int
	steps    []api.Step
	expected []string
	end      bool
	stack    []string
	trees    []api.Tree
	count    int
	whole    api.Errno // of Parse (and likewise of others) for the word and the end
	behind   api.Errno // of Expected
	word     api.Errno // of Stack and Partial
}

// want finds what is wanted.
func (o oracle) want(l []api.Token) wanted {
	var w wanted
	stack := []entry{{}}
	for i, token := range l {
		next, steps, ok := o.come(stack, token)
		if !ok {
			return wanted{whole: api.ErrFull, behind: api.ErrFull, word: api.ErrFull}
		}
		if next == nil {
			w = wanted{at: i, count: i, whole: api.ErrRule, behind: api.ErrRule, word: api.ErrRule}
			w.trees = trees(stack)
			return w
		}
		stack = next
		w.steps = append(w.steps, steps...)
	}
	w.trees, w.count = trees(stack), len(l)
	for _, e := range stack[1:] {
		w.stack = append(w.stack, e.symbol)
	}
	for _, kind := range append(slices.Clone(o.g.Kinds), "") {
		last, _, ok := o.come(stack, api.Token{Kind: kind})
		if !ok {
			w.behind = api.ErrFull
		} else if last != nil && kind != "" {
			w.expected = append(w.expected, kind)
		} else if last != nil {
			w.end = true
		}
	}
	if w.behind != api.OK {
		w.expected, w.end = nil, false
	}
	o.wantWhole(&w, stack)
	return w
}

// wantWhole finds what is wanted of the end.
func (o oracle) wantWhole(w *wanted, stack []entry) {
	last, steps, ok := o.come(stack, api.Token{})
	switch {
	case !ok:
		w.whole = api.ErrFull
	case last == nil:
		w.whole, w.at = api.ErrRule, w.count
	default:
		w.accepted, w.tree, w.steps = true, last[1].tree, append(w.steps, steps...)
	}
	if w.whole != api.OK {
		w.steps = nil
	}
}

func trees(stack []entry) []api.Tree {
	var list []api.Tree
	for _, e := range stack[1:] {
		list = append(list, e.tree)
	}
	return list
}

// checkAll compares what all functions return for some tokens.
func checkAll(t *testing.T, g api.Grammar, word []string, w wanted) {
	t.Helper()
	l := tokens(word...)
	x, at, err := parse.Parse(g, l)
	is(t, []any{"Parse", word, x, at, err}, []any{"Parse", word, w.tree, w.at, w.whole})
	err = w.whole
	if err == api.ErrRule {
		err = api.OK
	}
	ok, at, got := parse.Accepts(g, word)
	is(t, []any{"Accepts", word, ok, at, got}, []any{"Accepts", word, w.accepted, w.at, err})
	steps, got := parse.Steps(g, word)
	is(t, []any{"Steps", word, steps, got}, []any{"Steps", word, w.steps, w.whole})
	kinds, end, got := parse.Expected(g, word)
	is(t, []any{"Expected", word, kinds, end, got}, []any{"Expected", word, w.expected, w.end, w.behind})
	symbols, got := parse.Stack(g, word)
	is(t, []any{"Stack", word, symbols, got}, []any{"Stack", word, w.stack, w.word})
	err = w.word
	if err == api.ErrRule {
		err = api.OK
	}
	list, count, got := parse.Partial(g, l)
	is(t, []any{"Partial", word, list, count, got}, []any{"Partial", word, w.trees, w.count, err})
}

// P5.1 to P5.4: all functions do what a plain parser does, with levels and without.
func TestRandomParsers(t *testing.T) {
	met := map[string]int{}
	for most := range 3 {
		eachGrammar(t, 300, most, func(g api.Grammar) {
			states, _ := table.Make(g, api.TableFull)
			o := oracle{g, states}
			for _, word := range allWords(g.Kinds, 3) {
				w := o.want(tokens(word...))
				met[fmt.Sprint(w.whole, " ", w.behind, " ", w.word)]++
				checkAll(t, g, word, w)
			}
		})
	}
	for _, key := range []string{"0 0 0", "16 0 0", "16 16 16", "12 12 0", "12 12 12"} {
		if met[key] < 20 {
			t.Errorf("%s: %d times", key, met[key])
		}
	}
}

// P5.2, P5.4: without levels just the words of the language are accepted; each one has one tree, which is one of the grammar.
func TestRandomLanguages(t *testing.T) {
	accepted := 0
	eachGrammar(t, 300, 0, func(g api.Grammar) {
		for _, word := range allWords(g.Kinds, 5) {
			ok, _, err := parse.Accepts(g, word)
			in, _ := gram.Derives(g, word)
			is(t, []any{word, ok, err}, []any{word, in, api.OK})
			if ok {
				accepted++
				n, err := gram.Trees(g, word)
				is(t, []any{word, n, err}, []any{word, 1, api.OK})
				checkRight(t, g, word)
			}
		}
	})
	if accepted < 300 {
		t.Errorf("only %d words", accepted)
	}
}

// P5.1: with levels no word is accepted that is not in the language.
func TestRandomLevels(t *testing.T) {
	accepted, less := 0, 0
	eachGrammar(t, 300, 2, func(g api.Grammar) {
		for _, word := range allWords(g.Kinds, 4) {
			ok, _, _ := parse.Accepts(g, word)
			in, _ := gram.Derives(g, word)
			if ok {
				accepted++
				is(t, []any{word, in}, []any{word, true})
				checkRight(t, g, word)
			} else if in {
				less++
			}
		}
	})
	is(t, []bool{accepted > 300, less > 50}, []bool{true, true})
}

// checkRight asks whether tree, steps and derivation of a word are right for the grammar, and of one another.
func checkRight(t *testing.T, g api.Grammar, word []string) {
	t.Helper()
	l := tokens(word...)
	x, _, _ := parse.Parse(g, l)
	symbol, err := tree.Symbol(g, x)
	is(t, []any{word, symbol, err}, []any{word, g.Start, api.OK})
	got, _ := tree.Tokens(x)
	is(t, reflect.DeepEqual(got, l), true)
	n, _, _ := tree.Size(x)
	steps, err := parse.Steps(g, word)
	is(t, []any{word, len(steps), err}, []any{word, n, api.OK})
	lists, err := parse.Derivation(g, word)
	is(t, []any{word, len(lists), err}, []any{word, n - len(word) + 1, api.OK})
	is(t, []any{word, lists[0], lists[len(lists)-1]}, []any{word, []string{g.Start}, word})
	rules := lastFirst(x)
	for i, rule := range rules {
		is(t, lists[i+1], replaced(g, lists[i], rule))
	}
	slices.Reverse(steps)
	steps = slices.DeleteFunc(steps, func(s api.Step) bool { return s.Rule < 0 })
	for i, s := range steps {
		is(t, s.Rule, rules[i])
	}
}

// lastFirst are the rules of the nodes of a tree, those of later Kids first.
func lastFirst(x api.Tree) []int {
	if x.Rule < 0 {
		return nil
	}
	list := []int{x.Rule}
	for _, kid := range slices.Backward(x.Kids) {
		list = append(list, lastFirst(kid)...)
	}
	return list
}

// replaced is a list whose last Left has become the Right of a rule.
func replaced(g api.Grammar, list []string, rule int) []string {
	for i, symbol := range slices.Backward(list) {
		if slices.Contains(g.Kinds, symbol) {
			continue
		}
		if symbol != g.Rules[rule].Left {
			return nil
		}
		return slices.Concat(list[:i], g.Rules[rule].Right, list[i+1:])
	}
	return nil
}

// begun is a grammar of all beginnings of the words of a grammar without barren symbols: what p and a Left become is the beginning of what the Left becomes.
func begun(g api.Grammar) api.Grammar {
	h := api.Grammar{Kinds: g.Kinds, Start: "p" + g.Start, Rules: slices.Clone(g.Rules)}
	add := func(left string, right []string) {
		known := slices.ContainsFunc(h.Rules, func(r api.Rule) bool { return r.Left == left && slices.Equal(r.Right, right) })
		if !known {
			h.Rules = append(h.Rules, api.Rule{Left: left, Right: right})
		}
	}
	for _, r := range g.Rules {
		add("p"+r.Left, nil)
		for i, symbol := range r.Right {
			if !slices.Contains(g.Kinds, symbol) {
				symbol = "p" + symbol
			}
			add("p"+r.Left, append(slices.Clone(r.Right[:i]), symbol))
		}
	}
	return h
}

// P5.2, P5.3: without levels and barren symbols the first wrong token is the first one up to which no word of the language begins so, and what is expected goes on.
func TestRandomBeginnings(t *testing.T) {
	tried := 0
	eachGrammar(t, 300, 0, func(g api.Grammar) {
		if barren, _ := gram.Barren(g); len(barren) > 0 {
			return
		}
		tried++
		h := begun(g)
		is(t, gram.Check(h), api.OK)
		begins := func(word []string) bool {
			ok, _ := gram.Derives(h, word)
			return ok
		}
		for _, word := range allWords(g.Kinds, 4) {
			ok, at, _ := parse.Accepts(g, word)
			want := 0
			for !ok && want < len(word) && begins(word[:want+1]) {
				want++
			}
			is(t, []any{word, at}, []any{word, want})
			if !begins(word) {
				continue
			}
			var kinds []string
			for _, kind := range g.Kinds {
				if begins(append(slices.Clone(word), kind)) {
					kinds = append(kinds, kind)
				}
			}
			got, end, err := parse.Expected(g, word)
			is(t, []any{word, got, end, err}, []any{word, kinds, ok, api.OK})
		}
	})
	if tried < 100 {
		t.Errorf("only %d grammars", tried)
	}
}

// P5.1, P5.4: Unique asks for the table, and then for the trees of all short words.
func TestRandomUnique(t *testing.T) {
	r := rand.New(rand.NewPCG(8, 9))
	met := map[string]int{}
	for range 2_000 {
		g := randomGrammar(r, 2)
		var words [][]string
		_, want := table.Make(g, api.TableFull)
		if want == api.OK {
			words, want = gram.Words(g, api.MaxShort)
		}
		unique := want == api.OK
		for _, word := range words {
			if want == api.OK {
				var n int
				n, want = gram.Trees(g, word)
				unique = unique && n == 1
			}
		}
		got, err := parse.Unique(g)
		is(t, []any{g, got, err}, []any{g, unique && want == api.OK, want})
		met[fmt.Sprint(got, err)]++
	}
	for _, key := range []string{fmt.Sprint(true, api.OK), fmt.Sprint(false, api.OK), fmt.Sprint(false, api.ErrState), fmt.Sprint(false, api.ErrTwice), fmt.Sprint(false, api.ErrConflict)} {
		if met[key] < 5 {
			t.Errorf("%s: %d times", key, met[key])
		}
	}
}
