package lex_test

import (
	"fmt"
	"math"
	"strings"
	"testing"

	"hedgelayer/api"
	"hedgelayer/lex"
)

func is(t *testing.T, got, want any) {
	t.Helper()
	if fmt.Sprintf("%#v", got) != fmt.Sprintf("%#v", want) {
		t.Errorf("got %#v, want %#v", got, want)
	}
}

const example = "num [0-9][0-9]*\nid [a-z][a-z]*\ndots ..\n- \\20\n"

// marks reads marks that must be right.
func marks(t *testing.T, text string) []api.Mark {
	t.Helper()
	m, line, err := lex.Read(text)
	is(t, []any{text, line, err}, []any{text, 0, api.OK})
	return m
}

// pat reads a pattern that must be right.
func pat(t *testing.T, text string) api.Pat {
	t.Helper()
	p, err := lex.ReadPat(text)
	is(t, []any{text, err}, []any{text, api.OK})
	return p
}

func one(c byte) api.Pat { return api.Pat{Op: api.PatBytes, Low: int(c), High: int(c)} }

func then(args ...api.Pat) api.Pat { return api.Pat{Op: api.PatThen, Args: args} }

func or(args ...api.Pat) api.Pat { return api.Pat{Op: api.PatOr, Args: args} }

func star(arg api.Pat) api.Pat { return api.Pat{Op: api.PatStar, Args: []api.Pat{arg}} }

// times are n equal patterns.
func times(n int, p api.Pat) []api.Pat {
	var list []api.Pat
	for range n {
		list = append(list, p)
	}
	return list
}

// deep is a pattern of some depth.
func deep(depth int, p api.Pat) api.Pat {
	for range depth - 1 {
		p = star(p)
	}
	return p
}

// P2.1: what is right.
func TestCheckPatRight(t *testing.T) {
	for i, p := range []api.Pat{
		one('a'), one(0), one(255),
		{Op: api.PatBytes, Low: 0, High: 255},
		then(), then(one('a'), one('b')), then(then(), then()),
		or(one('a'), one('a')), or(then(), then()),
		star(one('a')), star(then()), star(star(one('a'))),
		deep(api.MaxPatDepth, one('a')),
		then(times(api.MaxPats-1, one('a'))...),
		or(times(api.MaxPats-1, one('a'))...),
		{Op: api.PatBytes, Low: 1, High: 2, Args: []api.Pat{}},
	} {
		is(t, []any{i, lex.CheckPat(p)}, []any{i, api.OK})
	}
}

// P2.1: each error, and which one comes first.
func TestCheckPatErrors(t *testing.T) {
	bad := api.Pat{Op: 9}
	for i, x := range []struct {
		p    api.Pat
		want api.Errno
	}{
		{deep(api.MaxPatDepth+1, one('a')), api.ErrLarge},
		{deep(api.MaxPatDepth+1, bad), api.ErrLarge},
		{deep(api.MaxPatDepth, bad), api.ErrKind},
		{then(times(api.MaxPats, one('a'))...), api.ErrLarge},
		{then(append(times(api.MaxPats, one('a')), bad)...), api.ErrKind},
		{or(star(or(times(1000, one('a'))...)), star(then(times(1000, one('a'))...))), api.ErrLarge},
		{api.Pat{}, api.ErrKind},
		{api.Pat{Op: 5}, api.ErrKind},
		{api.Pat{Op: -1}, api.ErrKind},
		{api.Pat{Op: math.MinInt}, api.ErrKind},
		{api.Pat{Op: math.MaxInt, Low: -1, Args: []api.Pat{bad}}, api.ErrKind},
		{api.Pat{Op: api.PatBytes, Args: []api.Pat{one('a')}}, api.ErrForm},
		{api.Pat{Op: api.PatBytes, Low: -1, Args: []api.Pat{bad}}, api.ErrForm},
		{then(one('a')), api.ErrForm},
		{or(), api.ErrForm},
		{or(one('a')), api.ErrForm},
		{api.Pat{Op: api.PatStar}, api.ErrForm},
		{api.Pat{Op: api.PatStar, Args: times(2, one('a'))}, api.ErrForm},
		{api.Pat{Op: api.PatThen, Low: 1}, api.ErrForm},
		{api.Pat{Op: api.PatThen, High: 1}, api.ErrForm},
		{api.Pat{Op: api.PatOr, Low: -1, Args: times(2, one('a'))}, api.ErrForm},
		{api.Pat{Op: api.PatOr, High: 300, Args: times(2, bad)}, api.ErrForm},
		{api.Pat{Op: api.PatStar, Low: 1, Args: times(1, one('a'))}, api.ErrForm},
		{api.Pat{Op: api.PatStar, High: 1, Args: times(1, one('a'))}, api.ErrForm},
		{api.Pat{Op: api.PatBytes, Low: -1}, api.ErrArg},
		{api.Pat{Op: api.PatBytes, Low: 256, High: 256}, api.ErrArg},
		{api.Pat{Op: api.PatBytes, Low: 1, High: 256}, api.ErrArg},
		{api.Pat{Op: api.PatBytes, Low: 2, High: 1}, api.ErrArg},
		{api.Pat{Op: api.PatBytes, Low: math.MinInt, High: math.MaxInt}, api.ErrArg},
		{then(one('a'), bad), api.ErrKind},
		{then(api.Pat{Op: api.PatBytes, Low: -1}, bad), api.ErrArg},
		{then(or(one('a'), then(one('a'))), bad), api.ErrForm},
		{or(or(one('a'), bad), then(one('a'))), api.ErrKind},
	} {
		is(t, []any{i, lex.CheckPat(x.p)}, []any{i, x.want})
	}
}

// P2.1: all functions with patterns return CheckPat's error, Differ of the first pattern first.
func TestPatternsAreChecked(t *testing.T) {
	bad, form, a := api.Pat{Op: 9}, then(one('a')), one('a')
	fits, err := lex.Fits(bad, strings.Repeat("a", api.MaxText+1))
	is(t, []any{fits, err}, []any{false, api.ErrKind})
	s, err := lex.PatText(form)
	is(t, []any{s, err}, []any{"", api.ErrForm})
	for _, x := range []struct {
		p, q api.Pat
		want api.Errno
	}{{bad, form, api.ErrKind}, {form, bad, api.ErrForm}, {a, form, api.ErrForm}, {a, deep(31, a), api.ErrLarge}, {form, a, api.ErrForm}} {
		s, ok, err := lex.Differ(x.p, x.q)
		is(t, []any{s, ok, err}, []any{"", false, x.want})
	}
}

func mark(kind string, p api.Pat) api.Mark { return api.Mark{Kind: kind, Pat: p} }

// many are n equal marks.
func many(n int, m api.Mark) []api.Mark {
	var list []api.Mark
	for range n {
		list = append(list, m)
	}
	return list
}

// crowd is a pattern with 2 to the power of n sets, and the empty one: it fits strings of a and b of which the n-th byte from the end is an a.
func crowd(n int) api.Pat {
	ab := or(one('a'), one('b'))
	args := []api.Pat{star(ab), one('a')}
	return then(append(args, times(n-1, ab)...)...)
}

// row is a pattern with n sets, and the empty one: it fits a c with n-1 d behind it.
func row(n int) api.Pat {
	return then(append([]api.Pat{one('c')}, times(n-1, one('d'))...)...)
}

// P2.3: what is right.
func TestCheckRight(t *testing.T) {
	for i, m := range [][]api.Mark{
		{mark("a", one('a'))},
		{mark("", one('a'))},
		{mark("a", one('a')), mark("a", one('a'))},
		many(api.MaxMarks, mark("x", one('a'))),
		{mark(strings.Repeat("a", api.MaxName), one(0))},
		{mark("a_0", then(star(one('a')), one('a')))},
		{mark("a", then(times(999, one('a'))...)), mark("b", then(times(999, one('a'))...))},
		{mark("a", crowd(11))},
		{mark("a", crowd(11)), mark("b", row(api.MaxSets-2_049))},
	} {
		is(t, []any{i, lex.Check(m)}, []any{i, api.OK})
	}
}

// P2.3: each error, and which one comes first.
func TestCheckErrors(t *testing.T) {
	a, bad := mark("a", one('a')), mark("a", api.Pat{Op: 9})
	half := mark("a", then(times(1000, one('a'))...))
	for i, x := range []struct {
		m    []api.Mark
		want api.Errno
	}{
		{nil, api.ErrNone},
		{[]api.Mark{}, api.ErrNone},
		{many(api.MaxMarks+1, a), api.ErrLarge},
		{many(api.MaxMarks+1, bad), api.ErrLarge},
		{many(200_000, api.Mark{}), api.ErrLarge},
		{[]api.Mark{mark("A", one('a'))}, api.ErrName},
		{[]api.Mark{mark("1", bad.Pat)}, api.ErrName},
		{[]api.Mark{mark("-", one('a'))}, api.ErrName},
		{[]api.Mark{mark("a b", one('a'))}, api.ErrName},
		{[]api.Mark{mark(strings.Repeat("a", api.MaxName+1), one('a'))}, api.ErrName},
		{[]api.Mark{a, bad, mark("A", one('a'))}, api.ErrKind},
		{[]api.Mark{a, mark("", star(one('a'))), bad}, api.ErrRule},
		{[]api.Mark{mark("a", then())}, api.ErrRule},
		{[]api.Mark{mark("a", or(one('a'), then()))}, api.ErrRule},
		{[]api.Mark{mark("a", or(then(), one('a')))}, api.ErrRule},
		{[]api.Mark{mark("a", then(star(one('a')), or(star(one('a')), one('b'))))}, api.ErrRule},
		{[]api.Mark{mark("a", then(one('a')))}, api.ErrForm},
		{[]api.Mark{mark("a", deep(31, one('a')))}, api.ErrLarge},
		{[]api.Mark{mark("a", then(times(api.MaxPats, one('a'))...)), bad}, api.ErrLarge},
		{[]api.Mark{half, half}, api.ErrLarge},
		{[]api.Mark{half, half, bad}, api.ErrKind},
		{[]api.Mark{half, half, mark("a", crowd(12))}, api.ErrLarge},
		{[]api.Mark{mark("a", crowd(12))}, api.ErrFull},
		{[]api.Mark{mark("a", crowd(100))}, api.ErrFull},
		{[]api.Mark{mark("a", crowd(11)), mark("b", row(api.MaxSets-2_048))}, api.ErrFull},
	} {
		is(t, []any{i, lex.Check(x.m)}, []any{i, x.want})
	}
}

// P2.3: the functions with marks return Check's error before their own.
func TestMarksAreChecked(t *testing.T) {
	long := strings.Repeat("a", api.MaxText+1)
	for _, x := range []struct {
		m    []api.Mark
		want api.Errno
	}{{nil, api.ErrNone}, {[]api.Mark{mark("A", one('a'))}, api.ErrName}, {[]api.Mark{mark("a", star(one('a')))}, api.ErrRule}, {[]api.Mark{mark("a", crowd(12))}, api.ErrFull}} {
		n, err := lex.Sets(x.m)
		is(t, []any{n, err}, []any{0, x.want})
		s, ok, err := lex.Least(x.m, -1)
		is(t, []any{s, ok, err}, []any{"", false, x.want})
		l, err := lex.Shadowed(x.m)
		is(t, []any{len(l), err}, []any{0, x.want})
		s, err = lex.Text(x.m)
		is(t, []any{s, err}, []any{"", x.want})
		f, err := lex.Longest(x.m, long, -1)
		is(t, []any{f, err}, []any{api.Found{}, x.want})
		p, at, err := lex.Pieces(x.m, long)
		is(t, []any{len(p), at, err}, []any{0, 0, x.want})
		k, tail, at, err := lex.Split(x.m, long)
		is(t, []any{len(k), tail, at, err}, []any{0, "", 0, x.want})
		r, at, err := lex.Again(x.m, nil, long, api.Edit{At: -1})
		is(t, []any{r, at, err}, []any{api.Resplit{}, 0, x.want})
		s, ok, err = lex.Between(x.m, long, "")
		is(t, []any{s, ok, err}, []any{"", false, x.want})
	}
}
