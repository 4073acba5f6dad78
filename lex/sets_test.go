package lex_test

import (
	"math"
	"testing"

	"hedgelayer/api"
	"hedgelayer/lex"
)

// P2.3: how many sets there are.
func TestSets(t *testing.T) {
	for text, want := range map[string]int{
		example:                       8,
		"a a\n":                       2, // the place, and no place
		"a [\\00-\\ff]\n":             2,
		"a aa\n":                      3,
		"a aa*\n":                     3,
		"a aa|ab\n":                   4, // both first places are alive at once
		"a a|b|c\n":                   4,
		"a [a-c]\n":                   2,
		"a a\nb a\n":                  2,
		"a ab\nb ac\n":                4,
		"a ()a()\n":                   2,
		"a a()*\n":                    2,
		"a (a|b)*a(a|b)\n":            5,
		"a [\\00-\\ff]*[\\00-\\ff]\n": 1, // there is no string without a place
		"a [\\00-\\7f]*[\\00-\\ff]\n": 3,
		"a [\\00-\\7f][\\80-\\ff]*|[\\80-\\ff]\n": 4,
		"- a**b\n": 3,
	} {
		n, err := lex.Sets(marks(t, text))
		is(t, []any{text, n, err}, []any{text, want, api.OK})
	}
	for i, want := range []int{3, 5, 9, 17, 33} {
		n, err := lex.Sets([]api.Mark{mark("a", crowd(i+1))})
		is(t, []any{n, err}, []any{want, api.OK})
	}
	n, err := lex.Sets([]api.Mark{mark("a", crowd(11)), mark("b", row(api.MaxSets-2_049))})
	is(t, []any{n, err}, []any{api.MaxSets, api.OK})
}

// P2.4: the least strings that marks win.
func TestLeast(t *testing.T) {
	for _, x := range []struct {
		text string
		n    int
		want string
		ok   bool
	}{
		{example, 0, "0", true},
		{example, 1, "a", true},
		{example, 2, "..", true},
		{example, 3, " ", true},
		{"kw if\nid [a-z][a-z]*\n", 0, "if", true},
		{"id [a-z][a-z]*\nkw if\n", 1, "", false},
		{"a a|b\nid [a-z][a-z]*\n", 1, "c", true},
		{"a [a-z]\nid [a-z][a-z]*\n", 1, "aa", true},
		{"a a\nb a\n", 0, "a", true},
		{"a a\nb a\n", 1, "", false},
		{"a a\nb b\nc a|b\n", 2, "", false},
		{"a a|aa\nb aa*\n", 1, "aaa", true},
		{"a a\nb [a-b]\n", 1, "b", true},
		{"a zz|yaa\n", 0, "zz", true},
		{"a zza|yzb|yza\n", 0, "yza", true},
		{"a aaa|b\n", 0, "b", true},
		{"a [\\00-\\ff]\n", 0, "\x00", true},
		{"a [\\00-\\fe]\nb [\\00-\\ff]\n", 1, "\xff", true},
		{"a (a|b)*bb\nb b(a|b)*\n", 1, "b", true},
	} {
		s, ok, err := lex.Least(marks(t, x.text), x.n)
		is(t, []any{x.text, s, ok, err}, []any{x.text, x.want, x.ok, api.OK})
	}
	for _, n := range []int{-1, 4, math.MinInt, math.MaxInt} {
		s, ok, err := lex.Least(marks(t, example), n)
		is(t, []any{s, ok, err}, []any{"", false, api.ErrArg})
	}
}

// P2.4: marks that win nothing.
func TestShadowed(t *testing.T) {
	for text, want := range map[string][]int{
		example:                              nil,
		"kw if\nid [a-z][a-z]*\n":            nil,
		"id [a-z][a-z]*\nkw if\n":            {1},
		"a a\n- a\na a\n":                    {1, 2},
		"a a\nb b\nc a|b\nd a|c\n":           {2},
		"a aa*\nb aa\nc a*\\20\nd aaa\n":     {1, 3},
		"a (a|b)(a|b)*\nb ab*\nc b|a\nd c\n": {1, 2},
		"a ab|ba\nb (a|b)(a|b)\nc aa|bb\n":   {2},
	} {
		l, err := lex.Shadowed(marks(t, text))
		is(t, []any{text, len(l), err}, []any{text, len(want), api.OK})
		if len(want) > 0 {
			is(t, []any{text, l}, []any{text, want})
		}
	}
}
