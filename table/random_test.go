package table_test

import (
	"cmp"
	"fmt"
	"math/rand/v2"
	"slices"
	"strings"
	"testing"

	"hedgelayer/api"
	"hedgelayer/gram"
	"hedgelayer/table"
)

// These tests compare the functions with plain ways to find the same, in many small grammars.

// randomGrammar has at most three kinds and four Lefts, and levels up to most; about half of all such grammars are right.
func randomGrammar(r *rand.Rand, most int) api.Grammar {
	g := api.Grammar{Kinds: []string{"a", "m", "z"}[:1+r.IntN(3)], Start: "s"}
	lefts := []string{"s", "b", "n", "u"}[:1+r.IntN(4)]
	symbols := append(slices.Clone(lefts), g.Kinds...)
	for range len(lefts) + r.IntN(4) {
		rule := api.Rule{Left: lefts[r.IntN(len(lefts))], Level: r.IntN(most + 1)}
		for range r.IntN(4) {
			rule.Right = append(rule.Right, symbols[r.IntN(len(symbols))])
		}
		g.Rules = append(g.Rules, rule)
	}
	return g
}

// eachGrammar calls test with many right grammars, half of which have levels.
func eachGrammar(t *testing.T, test func(g api.Grammar) bool) {
	t.Helper()
	r := rand.New(rand.NewPCG(5, 6))
	for count := 0; count < 1500; {
		g := randomGrammar(r, count%2*3)
		if gram.Check(g) != api.OK {
			continue
		}
		count++
		if !test(g) {
			s, _ := gram.Text(g)
			t.Fatalf("of the grammar\n%s", s)
		}
	}
}

// same compares results; it says what differs.
func same(t *testing.T, what string, got, want any) bool {
	t.Helper()
	if fmt.Sprint(got) != fmt.Sprint(want) {
		t.Errorf("%s: got %v, want %v", what, got, want)
		return false
	}
	return true
}

// oracle is a plain table: sets of items that are sorted, and moves by symbols.
type oracle struct {
	g       api.Grammar
	symbols []string
	states  [][]api.Item
	moves   []map[string]int
}

func (o *oracle) right(rule int) []string {
	if rule < 0 {
		return []string{o.g.Start}
	}
	return o.g.Rules[rule].Right
}

// behind is the symbol behind the dot, or nothing.
func (o *oracle) behind(x api.Item) string {
	if right := o.right(x.Rule); x.Dot < len(right) {
		return right[x.Dot]
	}
	return ""
}

// closed adds items one by one until nothing is new, and sorts them.
func (o *oracle) closed(items map[api.Item]bool) []api.Item {
	for size := 0; size < len(items); {
		size = len(items)
		for _, x := range sorted(items) {
			left := o.behind(x)
			if left == "" {
				continue
			}
			aheads, empty, _ := gram.First(o.g, o.right(x.Rule)[x.Dot+1:])
			if empty {
				aheads = append(aheads, x.Ahead)
			}
			for i, r := range o.g.Rules {
				for _, ahead := range aheads {
					if r.Left == left {
						items[api.Item{Rule: i, Ahead: ahead}] = true
					}
				}
			}
		}
	}
	return sorted(items)
}

func sorted(items map[api.Item]bool) []api.Item {
	var list []api.Item
	for x := range items {
		list = append(list, x)
	}
	slices.SortFunc(list, func(a, b api.Item) int {
		return cmp.Or(cmp.Compare(a.Rule, b.Rule), cmp.Compare(a.Dot, b.Dot), strings.Compare(a.Ahead, b.Ahead))
	})
	return list
}

func (o *oracle) find(items []api.Item) int {
	for i, s := range o.states {
		if slices.Equal(s, items) {
			return i
		}
	}
	o.states = append(o.states, items)
	return len(o.states) - 1
}

func newOracle(g api.Grammar) *oracle {
	lefts, _ := gram.Lefts(g)
	o := &oracle{g: g, symbols: append(slices.Clone(g.Kinds), lefts...)}
	slices.Sort(o.symbols)
	o.find(o.closed(map[api.Item]bool{{Rule: -1}: true}))
	for i := 0; i < len(o.states); i++ {
		o.moves = append(o.moves, map[string]int{})
		for _, symbol := range o.symbols {
			items := map[api.Item]bool{}
			for _, x := range o.states[i] {
				if o.behind(x) == symbol {
					items[api.Item{Rule: x.Rule, Dot: x.Dot + 1, Ahead: x.Ahead}] = true
				}
			}
			if len(items) > 0 {
				o.moves[i][symbol] = o.find(o.closed(items))
			}
		}
	}
	return o
}

// bare are items without what comes, each once.
func bare(items []api.Item) []api.Item {
	set := map[api.Item]bool{}
	for _, x := range items {
		set[api.Item{Rule: x.Rule, Dot: x.Dot}] = true
	}
	return sorted(set)
}

// merged is the merged table, and the numbers of states in it.
func (o *oracle) merged() (*oracle, []int) {
	small := &oracle{g: o.g, symbols: o.symbols}
	var cores [][]api.Item
	var numbers []int
	for i, s := range o.states {
		core := bare(s)
		n := slices.IndexFunc(cores, func(c []api.Item) bool { return slices.Equal(c, core) })
		if n < 0 {
			n = len(cores)
			cores = append(cores, core)
			small.states = append(small.states, nil)
			small.moves = append(small.moves, o.moves[i])
		}
		set := map[api.Item]bool{}
		for _, x := range append(slices.Clone(small.states[n]), s...) {
			set[x] = true
		}
		small.states[n] = sorted(set)
		numbers = append(numbers, n)
	}
	for n, moves := range small.moves {
		small.moves[n] = map[string]int{}
		for symbol, to := range moves {
			small.moves[n][symbol] = numbers[to]
		}
	}
	return small, numbers
}

// lists are the least ones of the shortest lists of symbols to all states: each is made shorter, or less, as long as one can be.
func (o *oracle) lists() [][]string {
	lists := make([][]string, len(o.states))
	for changed := true; changed; {
		changed = false
		for i, moves := range o.moves {
			for symbol, to := range moves {
				list := append(slices.Clone(lists[i]), symbol)
				if i > 0 && lists[i] == nil || to == 0 {
					continue
				}
				long := cmp.Compare(len(list), len(lists[to]))
				if lists[to] == nil || long < 0 || long == 0 && slices.Compare(list, lists[to]) < 0 {
					lists[to] = list
					changed = true
				}
			}
		}
	}
	return lists
}

// eachTable calls test with the tables of both kinds of many grammars.
func eachTable(t *testing.T, test func(o *oracle, kind int) bool) {
	t.Helper()
	eachGrammar(t, func(g api.Grammar) bool {
		full := newOracle(g)
		merged, numbers := full.merged()
		got, err := table.Merged(g)
		return same(t, "Merged", []any{got, err}, []any{numbers, api.OK}) &&
			test(full, api.TableFull) && test(merged, api.TableMerged)
	})
}

// P3.1, P3.2: Items, Size, Merged, Reach and Access agree with a plain table.
func TestStates(t *testing.T) {
	merging := 0
	eachTable(t, func(o *oracle, kind int) bool {
		n, err := table.Size(o.g, kind)
		ok := same(t, "Size", []any{n, err}, []any{len(o.states), api.OK})
		full, _ := table.Size(o.g, api.TableFull)
		if n < full {
			merging++
		}
		lists := o.lists()
		for i := range o.states {
			if !ok {
				return false
			}
			l, err := table.Items(o.g, kind, i)
			ok = same(t, "Items", []any{l, err}, []any{o.states[i], api.OK})
			list, err := table.Access(o.g, kind, i)
			ok = ok && same(t, "Access", []any{list, err}, []any{lists[i], api.OK})
			for _, symbol := range o.symbols {
				to, err := table.Reach(o.g, kind, append(list, symbol))
				want, there := o.moves[i][symbol]
				wrong := api.OK
				if !there {
					wrong = api.ErrRule
				}
				ok = ok && same(t, "Reach "+symbol, []any{to, err}, []any{want, wrong})
			}
		}
		return ok
	})
	if merging < 100 {
		t.Errorf("only %d tables in which states are merged", merging)
	}
}

// decision is what levels decide in a state for what comes.
type decision struct {
	rules    []int
	shift    bool
	conflict []int // the rules of the conflict, if there is one
	reduce   int   // the rule that is reduced; -2 if there is none
	shifted  bool
	decided  bool
}

func (o *oracle) level(rule int) int {
	if rule < 0 {
		return 0
	}
	return o.g.Rules[rule].Level
}

// decide follows the text of P3.3.
func (o *oracle) decide(state int, ahead string) decision {
	d := decision{reduce: -2}
	ofKind := 0
	for _, x := range o.states[state] {
		symbol := o.behind(x)
		if symbol == "" && x.Dot == len(o.right(x.Rule)) && x.Ahead == ahead {
			d.rules = append(d.rules, x.Rule)
		}
		if symbol != "" && symbol == ahead {
			d.shift = true
			ofKind = max(ofKind, o.level(x.Rule))
		}
	}
	left := slices.Clone(d.rules)
	if len(left) > 1 {
		greatest := 0
		for _, rule := range left {
			greatest = max(greatest, o.level(rule))
		}
		left = slices.DeleteFunc(left, func(rule int) bool { return o.level(rule) < greatest })
		if greatest == 0 || len(left) > 1 {
			d.conflict = d.rules
			return d
		}
		d.decided = true
	}
	if len(left) == 1 && d.shift {
		ofRule := o.level(left[0])
		if ofRule == 0 || ofKind == 0 {
			d.conflict = left
			d.decided = false
			return d
		}
		d.decided = true
		if ofRule < ofKind {
			left = nil
		}
	}
	if len(left) == 1 {
		d.reduce = left[0]
	} else {
		d.shifted = d.shift
	}
	return d
}

// word is the word to a state, and its error.
func (o *oracle) word(lists [][]string, state int) ([]string, api.Errno) {
	var word []string
	for _, symbol := range lists[state] {
		w, err := gram.Shortest(o.g, symbol)
		if err != api.OK {
			return nil, err
		}
		word = append(word, w...)
	}
	return word, api.OK
}

// whole are the results of Conflicts, Resolved, Make and Defaults, each with its error.
func (o *oracle) whole() []any {
	var conflicts, resolved []api.Conflict
	var states []api.State
	var defaults []int
	bad := [2]api.Errno{}
	lists := o.lists()
	for i := range o.states {
		var s api.State
		count := map[int]int{}
		shifted := map[string]bool{}
		for _, ahead := range append([]string{""}, o.g.Kinds...) {
			d := o.decide(i, ahead)
			word, err := o.word(lists, i)
			if d.conflict != nil {
				conflicts = append(conflicts, api.Conflict{State: i, Ahead: ahead, Shift: d.shift, Rules: d.conflict, Word: word})
				bad[0] = cmp.Or(bad[0], err)
			}
			if d.decided {
				resolved = append(resolved, api.Conflict{State: i, Ahead: ahead, Shift: d.shift, Rules: d.rules, Word: word})
				bad[1] = cmp.Or(bad[1], err)
			}
			if d.reduce > -2 {
				s.Reduces = append(s.Reduces, api.Reduce{Ahead: ahead, Rule: d.reduce})
				count[d.reduce]++
			}
			shifted[ahead] = d.shifted
		}
		for _, symbol := range o.symbols {
			to, ok := o.moves[i][symbol]
			if ok && (shifted[symbol] || !slices.Contains(o.g.Kinds, symbol)) {
				s.Moves = append(s.Moves, api.Move{Symbol: symbol, To: to})
			}
		}
		states = append(states, s)
		defaults = append(defaults, favourite(count, len(o.g.Rules)))
	}
	if bad[0] != api.OK {
		conflicts = nil
	}
	if bad[1] != api.OK {
		resolved = nil
	}
	last := api.OK
	if conflicts != nil || bad[0] != api.OK {
		states, defaults, last = nil, nil, api.ErrConflict
	}
	return []any{conflicts, bad[0], resolved, bad[1], states, last, defaults, last}
}

func favourite(count map[int]int, rules int) int {
	best := -2
	for rule := -1; rule < rules; rule++ {
		if count[rule] > count[best] {
			best = rule
		}
	}
	return best
}

// P3.3: Conflicts, Resolved, Make and Defaults agree with plain decisions.
func TestDecisions(t *testing.T) {
	made, conflicting, deciding := 0, 0, 0
	eachTable(t, func(o *oracle, kind int) bool {
		c, errC := table.Conflicts(o.g, kind)
		r, errR := table.Resolved(o.g, kind)
		m, errM := table.Make(o.g, kind)
		d, errD := table.Defaults(o.g, kind)
		switch {
		case errM == api.OK && len(r) > 0:
			deciding++
		case errM == api.OK:
			made++
		case errC == api.OK:
			conflicting++
		}
		return same(t, "table", []any{c, errC, r, errR, m, errM, d, errD}, o.whole())
	})
	if made < 100 || conflicting < 100 || deciding < 30 {
		t.Errorf("only %d, %d and %d tables of a sort", made, conflicting, deciding)
	}
}

// accepts runs a parser; it gives up after many steps.
func accepts(g api.Grammar, states []api.State, word string) bool {
	stack := []int{0}
	for steps := 0; steps < 1000; steps++ {
		top := states[stack[len(stack)-1]]
		ahead := word[:min(1, len(word))]
		if to, ok := moveBy(top, ahead); ok {
			stack = append(stack, to)
			word = word[1:]
			continue
		}
		i := slices.IndexFunc(top.Reduces, func(r api.Reduce) bool { return r.Ahead == ahead })
		if i < 0 {
			return false
		}
		rule := top.Reduces[i].Rule
		if rule == -1 {
			return true
		}
		stack = stack[:len(stack)-len(g.Rules[rule].Right)]
		to, _ := moveBy(states[stack[len(stack)-1]], g.Rules[rule].Left)
		stack = append(stack, to)
	}
	return false
}

func moveBy(s api.State, symbol string) (int, bool) {
	i := slices.IndexFunc(s.Moves, func(m api.Move) bool { return m.Symbol == symbol })
	if i < 0 {
		return 0, false
	}
	return s.Moves[i].To, true
}

// allWords are all words of kinds with at most most tokens.
func allWords(kinds []string, most int) []string {
	list := []string{""}
	for from := 0; most > 0; most-- {
		to := len(list)
		for _, word := range list[from:to] {
			for _, kind := range kinds {
				list = append(list, word+kind)
			}
		}
		from = to
	}
	return list
}

// What follows from the chapter: a merged table has at most as many states; without levels it has a conflict if the full one has one;
// without levels and conflicts both accept the words of the language, with levels no others.
func TestWhatFollows(t *testing.T) {
	parsed := 0
	eachGrammar(t, func(g api.Grammar) bool {
		many, _ := table.Size(g, api.TableFull)
		few, _ := table.Size(g, api.TableMerged)
		full, errFull := table.Make(g, api.TableFull)
		merged, errMerged := table.Make(g, api.TableMerged)
		leveled := slices.ContainsFunc(g.Rules, func(r api.Rule) bool { return r.Level > 0 })
		if few > many || !leveled && errFull != api.OK && errMerged == api.OK {
			return same(t, "TableMerged", []any{few, errMerged}, []any{many, errFull})
		}
		if errFull != api.OK || errMerged != api.OK {
			return true
		}
		parsed++
		for _, word := range allWords(g.Kinds, 4) {
			want, _ := gram.Derives(g, strings.Split(word, "")[:len(word)])
			a, b := accepts(g, full, word), accepts(g, merged, word)
			if leveled {
				a, b = a || want, b || want
			}
			if !same(t, "word "+word, []any{a, b}, []any{want, want}) {
				return false
			}
		}
		return true
	})
	if parsed < 300 {
		t.Errorf("only %d tables without conflicts", parsed)
	}
}
