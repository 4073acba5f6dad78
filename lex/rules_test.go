package lex_test

import (
	"fmt"
	"math"
	"slices"
	"strings"
	"sync"
	"testing"

	"hedgelayer/api"
	"hedgelayer/lex"
)

// These tests are about the rules for all chapters, Z1 to Z10.

// given are the arguments of a call.
type given struct {
	m    []api.Mark
	p, q api.Pat
	t    []api.Token
	s, x string
	n, k int
}

// call is a function, with what it returns for some arguments.
type call struct {
	name string
	run  func(g given) []any
}

func results(x ...any) []any { return x }

func calls() []call {
	return []call{
		{"CheckPat", func(g given) []any { return results(lex.CheckPat(g.p)) }},
		{"Check", func(g given) []any { return results(lex.Check(g.m)) }},
		{"Fits", func(g given) []any { return results(lex.Fits(g.p, g.s)) }},
		{"PatText", func(g given) []any { return results(lex.PatText(g.p)) }},
		{"ReadPat", func(g given) []any { return results(lex.ReadPat(g.s)) }},
		{"Text", func(g given) []any { return results(lex.Text(g.m)) }},
		{"Read", func(g given) []any { return results(lex.Read(g.s)) }},
		{"Sets", func(g given) []any { return results(lex.Sets(g.m)) }},
		{"Least", func(g given) []any { return results(lex.Least(g.m, g.n)) }},
		{"Shadowed", func(g given) []any { return results(lex.Shadowed(g.m)) }},
		{"Differ", func(g given) []any { return results(lex.Differ(g.p, g.q)) }},
		{"Longest", func(g given) []any { return results(lex.Longest(g.m, g.s, g.n)) }},
		{"Pieces", func(g given) []any { return results(lex.Pieces(g.m, g.s)) }},
		{"Split", func(g given) []any { return results(lex.Split(g.m, g.s)) }},
		{"Joined", func(g given) []any { return results(lex.Joined(g.t, g.s)) }},
		{"Again", func(g given) []any {
			return results(lex.Again(g.m, g.t, g.s, api.Edit{At: g.n, Old: g.k, New: g.x}))
		}},
		{"Between", func(g given) []any { return results(lex.Between(g.m, g.s, g.x)) }},
	}
}

// odd are arguments most of which are wrong in some way.
func odd(t *testing.T) []given {
	pats := []api.Pat{{}, one('a'), then(), star(star(then())), crowd(11), crowd(60), deep(31, one('a')), then(times(199_999, one('a'))...), or(times(2_000, api.Pat{})...), {Op: api.PatBytes, Low: math.MinInt, High: math.MaxInt}, {Op: api.PatStar, Low: math.MaxInt}}
	lists := [][]api.Mark{nil, marks(t, example), many(60, mark("a", one('a'))), many(200_000, api.Mark{}), {mark("a", crowd(11))}, {mark("a", crowd(60))}, {mark("", then())}}
	tokens := [][]api.Token{nil, {{Kind: "id", Text: "a"}}, make([]api.Token, 200_000), {{Kind: "\xff", Lead: "\xff"}}, make([]api.Token, 2_000)}
	strs := []string{"", "a", "a 1", "\x00\xff", "#", strings.Repeat("a", 200_000), strings.Repeat("(", 20_000), strings.Repeat(" ", 19_999), strings.Repeat("a", 20_000)}
	ints := []int{0, 1, -1, 2, math.MinInt, math.MaxInt, 19_999}
	var list []given
	for i := range 7 * 11 {
		list = append(list, given{lists[i%7], pats[i%11], pats[(i*5+1)%11], tokens[i%5], strs[i%9], strs[i*4%9], ints[i%7], ints[i*3%7]})
	}
	for i := range 50 {
		list = append(list, given{lists[1], pats[1], pats[3], tokens[i%2], strs[i%3], strs[i*2%9], ints[i%4], ints[i*3%7]})
	}
	return list
}

// Z1, Z3: every call returns, and with an error, or with false, all other results are zero values.
func TestZeroWithErrors(t *testing.T) {
	for _, g := range odd(t) {
		for _, c := range calls() {
			got := c.run(g)
			last := got[len(got)-1]
			none := last == api.OK && len(got) == 3 && got[1] == false
			if last == api.OK && !none {
				continue
			}
			for i, x := range got[:len(got)-1] {
				if told(c.name, i, last.(api.Errno)) {
					continue
				}
				switch s := fmt.Sprint(x); s {
				case "", "0", "false", "[]", fmt.Sprint(api.Pat{}), fmt.Sprint(api.Found{}), fmt.Sprint(api.Resplit{}):
				default:
					t.Errorf("%s: result %d is %.100s with error %v", c.name, i, s, last)
				}
			}
		}
	}
}

// told reports whether a result has a meaning with an error: numbers of lines, offsets, and the sight where there is no piece.
func told(name string, i int, err api.Errno) bool {
	switch name {
	case "Read":
		return i == 1 && err == api.ErrSyntax
	case "Longest":
		return err == api.ErrNone
	case "Pieces", "Again":
		return i == 1 && err == api.ErrNone
	case "Split":
		return i == 2 && err == api.ErrNone
	}
	return false
}

// usual are arguments that are right.
func usual(t *testing.T) given {
	m := marks(t, "id [a-z][a-z]*\nab (ab|c)*d\n- \\20|\\0a\n")
	tokens, _, _, err := lex.Split(m, "ab cd ")
	is(t, err, api.OK)
	return given{m, m[1].Pat, m[0].Pat, tokens, " ", "x", 1, 1}
}

// Z5: empty and nil lists are the same.
func TestEmptyLists(t *testing.T) {
	a, b := usual(t), usual(t)
	for i := range b.m[0].Pat.Args {
		if b.m[0].Pat.Args[i].Args == nil {
			b.m[0].Pat.Args[i].Args = []api.Pat{}
		}
	}
	a.p, b.p = api.Pat{Op: api.PatThen}, api.Pat{Op: api.PatThen, Args: []api.Pat{}}
	for _, c := range calls() {
		is(t, fmt.Sprint(c.name, c.run(a)), fmt.Sprint(c.name, c.run(b)))
	}
	a.t, b.t = nil, []api.Token{}
	for _, c := range calls() {
		is(t, fmt.Sprint(c.name, c.run(a)), fmt.Sprint(c.name, c.run(b)))
	}
	a.m, b.m = nil, []api.Mark{}
	for _, c := range calls() {
		is(t, fmt.Sprint(c.name, c.run(a)), fmt.Sprint(c.name, c.run(b)))
	}
}

// hiddenPat is an equal pattern whose lists have other memory behind their lengths.
func hiddenPat(p api.Pat) api.Pat {
	args := []api.Pat{}
	for _, arg := range p.Args {
		args = append(args, hiddenPat(arg))
	}
	p.Args = append(args, api.Pat{Op: 9}, api.Pat{Op: 9})[:len(args)]
	return p
}

// seen is a pattern with the memory behind its lists.
func seen(p api.Pat) string {
	s := fmt.Sprint(p)
	for _, arg := range p.Args {
		s += seen(arg)
	}
	return s + fmt.Sprint(p.Args[:cap(p.Args)])
}

// Z2: arguments are not modified, nor is memory behind the lengths of their lists; nor is it looked at.
func TestArgumentsStay(t *testing.T) {
	g, plain := usual(t), usual(t)
	g.p, g.q = hiddenPat(g.p), hiddenPat(g.q)
	for i := range g.m {
		g.m[i].Pat = hiddenPat(g.m[i].Pat)
	}
	g.m = append(g.m, api.Mark{Kind: "#"})[:len(g.m)]
	g.t = append(g.t, api.Token{Kind: "#"})[:len(g.t)]
	look := func() string {
		s := seen(g.p) + seen(g.q) + fmt.Sprint(g.m[:len(g.m)+1], g.t[:len(g.t)+1])
		for _, m := range g.m {
			s += seen(m.Pat)
		}
		return s
	}
	before := look()
	for _, c := range calls() {
		is(t, fmt.Sprint(c.name, c.run(g)), fmt.Sprint(c.name, c.run(plain)))
		is(t, c.name+look(), c.name+before)
	}
}

// spoilPat writes over all of a pattern.
func spoilPat(p api.Pat) {
	for i := range p.Args {
		spoilPat(p.Args[i])
		p.Args[i].Op = 99
	}
	all := p.Args[:cap(p.Args)]
	for i := range all {
		all[i] = api.Pat{Op: 99}
	}
}

// Z2: results are new memory: changing them changes neither arguments nor other results.
func TestResultsAreNew(t *testing.T) {
	g := usual(t)
	before := fmt.Sprint(g)
	r, _, err := lex.Again(g.m, g.t, g.s, api.Edit{At: 2, New: "x"})
	is(t, err, api.OK)
	clear(r.Tokens[:cap(r.Tokens)])
	k, _, _, _ := lex.Split(g.m, "ab cd")
	clear(k[:cap(k)])
	p, _, _ := lex.Pieces(g.m, "ab cd")
	clear(p[:cap(p)])
	l, _ := lex.Shadowed(marks(t, "a a\nb a\n"))
	clear(l[:cap(l)])
	is(t, fmt.Sprint(g), before)
	q := pat(t, "(ab|ab)*(ab|ab)**")
	spoilPat(q.Args[0])
	is(t, q.Args[1], pat(t, "(ab|ab)**"))
	or := q.Args[1].Args[0].Args[0]
	spoilPat(or.Args[0])
	is(t, or.Args[1], pat(t, "ab"))
	m := marks(t, "a ab\nb ab\n")
	spoilPat(m[0].Pat)
	is(t, m[1].Pat, pat(t, "ab"))
	is(t, marks(t, "a ab\n")[0].Pat, pat(t, "ab"))
}

// Z1, Z7: the same arguments give the same results, also from several goroutines at once.
func TestSameResults(t *testing.T) {
	g := usual(t)
	h := g
	h.m = slices.Concat(g.m, marks(t, example))
	all := func() string {
		var b strings.Builder
		for _, c := range calls() {
			fmt.Fprintln(&b, c.name, c.run(g), c.run(h))
		}
		return b.String()
	}
	want := all()
	var group sync.WaitGroup
	got := make([]string, 8)
	for i := range got {
		group.Add(1)
		go func() {
			defer group.Done()
			got[i] = all()
		}()
	}
	group.Wait()
	for _, s := range got {
		is(t, s, want)
	}
}
