package lex_test

import (
	"strings"
	"testing"

	"hedgelayer/api"
	"hedgelayer/lex"
)

// P2.1: what patterns fit.
func TestFits(t *testing.T) {
	for text, want := range map[string]struct{ yes, no []string }{
		"a":              {[]string{"a"}, []string{"", "b", "aa", "A"}},
		"[b-d]":          {[]string{"b", "c", "d"}, []string{"a", "e", "bc", ""}},
		`[\00-\ff]`:      {[]string{"\x00", "\xff", "a"}, []string{"", "ab", "é"}},
		`\ff`:            {[]string{"\xff"}, []string{"\xfe", "ff", `\ff`}},
		"()":             {[]string{""}, []string{"a", "()"}},
		"ab":             {[]string{"ab"}, []string{"a", "b", "ba", "abb", "", "aab"}},
		"a|bc":           {[]string{"a", "bc"}, []string{"b", "c", "ac", "abc", ""}},
		"()|a":           {[]string{"", "a"}, []string{"aa"}},
		"a*":             {[]string{"", "a", "aaaa"}, []string{"b", "ab", "ba"}},
		"()*":            {[]string{""}, []string{"a"}},
		"a**":            {[]string{"", "a", "aa"}, []string{"b"}},
		"(a*b*)*":        {[]string{"", "a", "b", "ba", "abba"}, []string{"c", "abc"}},
		"(a*)":           {nil, nil},
		"a*b*c":          {[]string{"c", "ac", "bc", "aabbc"}, []string{"", "bac", "ab", "cc"}},
		"(ab|c)*d":       {[]string{"d", "abd", "cabcd"}, []string{"ad", "ab", "abcdd"}},
		"(a|())(b|())c*": {[]string{"", "a", "b", "ab", "c", "bcc", "acc"}, []string{"ba", "aa", "cb"}},
		"(a()b)*()":      {[]string{"", "ab", "abab"}, []string{"a", "aba"}},
		"(a|ab)(c|bcd)":  {[]string{"ac", "abc", "abcd", "abbcd"}, []string{"a", "abcdd", "acd"}},
	} {
		p, err := lex.ReadPat(text)
		if want.yes == nil {
			is(t, err, api.ErrSyntax)
			continue
		}
		is(t, []any{text, err}, []any{text, api.OK})
		for _, s := range want.yes {
			fits, err := lex.Fits(p, s)
			is(t, []any{text, s, fits, err}, []any{text, s, true, api.OK})
		}
		for _, s := range want.no {
			fits, err := lex.Fits(p, s)
			is(t, []any{text, s, fits, err}, []any{text, s, false, api.OK})
		}
	}
}

// P2.1: the longest string, patterns with more sets than marks can have, and many patterns.
func TestFitsLarge(t *testing.T) {
	long := strings.Repeat("a", api.MaxText)
	p := star(one('a'))
	for _, x := range []struct {
		p    api.Pat
		s    string
		want bool
		err  api.Errno
	}{
		{p, long, true, api.OK},
		{p, long[1:] + "b", false, api.OK},
		{p, long + "a", false, api.ErrLarge},
		{crowd(300), long, true, api.OK},
		{crowd(300), strings.Repeat("ba", 500), false, api.OK},
		{crowd(301), strings.Repeat("ba", 500), true, api.OK},
		{then(times(999, p)...), "aaa", true, api.OK},
		{then(times(999, one('a'))...), long[:999], true, api.OK},
		{then(times(999, one('a'))...), long[:1000], false, api.OK},
		{deep(30, one('a')), long[:500], true, api.OK},
	} {
		fits, err := lex.Fits(x.p, x.s)
		is(t, []any{fits, err}, []any{x.want, x.err})
	}
}

// P2.1: in what two patterns differ.
func TestDiffer(t *testing.T) {
	for _, x := range []struct {
		p, q, want string
		ok         bool
	}{
		{"a", "a", "", false},
		{"a", "a*", "", true},
		{"aa*", "a*", "", true},
		{"a", "b", "a", true},
		{"a", "aa*", "aa", true},
		{"[a-c]", "a|b|c", "", false},
		{"[a-c]", "a|b", "c", true},
		{"[a-c]", "[b-d]", "a", true},
		{`[\00-\ff]`, `[\01-\ff]`, "\x00", true},
		{`[\00-\ff]`, `[\00-\fe]`, "\xff", true},
		{"(a|b)*", "(a*b*)*", "", false},
		{"(ab)*", "()|a(ba)*b", "", false},
		{"(a|b)*", "a*|b*", "ab", true},
		{"(a|b)*abb", "(a|b)*bb", "bb", true},
		{"aaaa*", "aaaaa*", "aaa", true},
		{"b|ca", "b|ac", "ac", true},
		{"a**", "a*", "", false},
		{"()", "()*", "", false},
		{"zzz|ay", "zzz|az", "ay", true},
		{"aaa|z", "aaa", "z", true},
	} {
		for _, swap := range []bool{false, true} {
			p, q := pat(t, x.p), pat(t, x.q)
			if swap {
				p, q = q, p
			}
			s, ok, err := lex.Differ(p, q)
			is(t, []any{x.p, x.q, s, ok, err}, []any{x.p, x.q, x.want, x.ok, api.OK})
		}
	}
}

// P2.1: Differ counts the sets of both patterns together, also if they differ at once.
func TestDifferFull(t *testing.T) {
	for _, x := range []struct {
		p, q api.Pat
		want api.Errno
	}{
		{crowd(11), one('a'), api.OK},
		{crowd(11), crowd(11), api.OK},
		{crowd(12), one('a'), api.ErrFull},
		{one('a'), crowd(12), api.ErrFull},
		{then(crowd(60), one('a')), then(), api.ErrFull},
		{crowd(11), row(api.MaxSets - 2_049), api.OK},
		{crowd(11), row(api.MaxSets - 2_048), api.ErrFull},
		{then(times(1_999, one('a'))...), then(times(1_999, one('a'))...), api.OK},
		{then(times(1_999, one('a'))...), then(times(1_999, one('b'))...), api.ErrFull},
	} {
		s, ok, err := lex.Differ(x.p, x.q)
		is(t, err, x.want)
		if err != api.OK {
			is(t, []any{s, ok}, []any{"", false})
		}
	}
}
