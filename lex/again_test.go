package lex_test

import (
	"math"
	"strings"
	"testing"

	"hedgelayer/api"
	"hedgelayer/lex"
)

// P2.7: what is kept when a text is split again.
func TestAgain(t *testing.T) {
	const far = "a a\nb a*b\nc c\n- \\20\n"
	for _, x := range []struct {
		text, s                        string
		e                              api.Edit
		ahead, behind, from, to, found int
	}{
		{example, "ab 12", api.Edit{At: 5, New: "3"}, 1, 0, 3, 6, 1},
		{example, "a b c d", api.Edit{At: 2, New: "x"}, 1, 2, 2, 4, 1},
		{example, "", api.Edit{}, 0, 0, 0, 0, 0},
		{example, "", api.Edit{New: "a b"}, 0, 0, 0, 3, 3},
		{example, "a b", api.Edit{Old: 3}, 0, 0, 0, 0, 0},
		{example, "a b", api.Edit{}, 0, 2, 0, 0, 0},
		{example, "a b", api.Edit{At: 1}, 0, 1, 0, 1, 1},
		{example, "a b", api.Edit{At: 2}, 1, 0, 2, 2, 0},  // the b is the same, but its Lead begins ahead of To
		{example, "a b", api.Edit{At: 3}, 1, 0, 2, 3, 1},  // the sight of the b goes beyond the end
		{example, "a b ", api.Edit{At: 4}, 2, 0, 4, 4, 0}, // the end of both texts
		{example, "a b c", api.Edit{At: 2, Old: 1, New: "b"}, 1, 1, 2, 3, 1},
		{example, "a b c", api.Edit{At: 1, Old: 1}, 0, 1, 0, 2, 1},
		{example, "a b c", api.Edit{At: 1, Old: 1, New: "  "}, 0, 1, 0, 3, 3}, // the b has another Lead
		{example, "a bc d", api.Edit{At: 3, New: " "}, 1, 1, 2, 5, 3},         // no piece began at the c
		{example, "a b c", api.Edit{At: 1, New: " "}, 0, 1, 0, 2, 2},          // the b has a longer Lead, that begins ahead of To
		{example, "a  b", api.Edit{At: 2, Old: 1}, 1, 0, 2, 2, 0},
		{example, "a  b c", api.Edit{At: 0, Old: 2}, 0, 1, 0, 0, 0}, // the b has another Lead, the c has not
		{example, "  a b", api.Edit{New: "z"}, 0, 2, 0, 1, 1},
		{example, "12 34", api.Edit{At: 2, Old: 1, New: "x"}, 0, 0, 0, 3, 2}, // the 34 has no Lead any more
		{example, "12..34", api.Edit{At: 2, Old: 2, New: "x"}, 0, 1, 0, 3, 2},
		{example, "a ", api.Edit{At: 2, New: " "}, 1, 0, 2, 3, 1},
		{far, "aaab", api.Edit{At: 3, Old: 1}, 0, 0, 0, 3, 3},
		{far, "aaac", api.Edit{At: 3, Old: 1, New: "b"}, 0, 0, 0, 4, 1},
		{far, "aaaca", api.Edit{At: 4, Old: 1, New: "b"}, 4, 0, 4, 5, 1},
		{far, "aaacaab", api.Edit{At: 5}, 4, 0, 4, 7, 1},
		{far, "caaacaab", api.Edit{At: 1, New: "a"}, 1, 5, 1, 2, 1},
		{far, "caabc", api.Edit{At: 3, New: "c"}, 1, 1, 1, 5, 4},
	} {
		m := marks(t, x.text)
		old, tail, _, err := lex.Split(m, x.s)
		is(t, err, api.OK)
		s := x.s[:x.e.At] + x.e.New + x.s[x.e.At+x.e.Old:]
		now, end, _, err := lex.Split(m, s)
		is(t, err, api.OK)
		want := api.Resplit{Tokens: now, Tail: end, Ahead: x.ahead, Behind: x.behind, From: x.from, To: x.to, Found: x.found}
		r, at, err := lex.Again(m, old, tail, x.e)
		is(t, []any{x.s, x.e, r, at, err}, []any{x.s, x.e, want, 0, api.OK})
	}
}

// P2.7: each error, and which one comes first.
func TestAgainErrors(t *testing.T) {
	m := marks(t, example)
	a, b := api.Token{Kind: "id", Text: "a"}, api.Token{Kind: "id", Lead: " ", Text: "b"}
	long := strings.Repeat(" ", api.MaxText-3)
	var many []api.Token
	for range api.MaxTokens {
		many = append(many, api.Token{Kind: "dots", Lead: " ", Text: ".."})
	}
	for i, x := range []struct {
		t    []api.Token
		tail string
		e    api.Edit
		at   int
		want api.Errno
	}{
		{[]api.Token{a, b}, " ", api.Edit{}, 0, api.OK},
		{make([]api.Token, api.MaxTokens+1), "", api.Edit{At: -1}, 0, api.ErrLarge},
		{[]api.Token{a, b}, long + " ", api.Edit{At: -1}, 0, api.ErrLarge},
		{[]api.Token{a, b}, long, api.Edit{}, 0, api.OK},
		{[]api.Token{a, {Kind: "id", Text: "b"}}, "", api.Edit{At: -1}, 0, api.ErrForm},
		{[]api.Token{{Kind: "id", Text: "a b"}}, "", api.Edit{}, 0, api.ErrForm},
		{[]api.Token{{Kind: "num", Text: "a"}}, "", api.Edit{}, 0, api.ErrForm},
		{[]api.Token{{Text: "a"}}, "", api.Edit{}, 0, api.ErrForm},
		{[]api.Token{{Kind: "id", Lead: "a", Text: ""}}, "", api.Edit{}, 0, api.ErrForm},
		{[]api.Token{{Kind: "id", Text: "a "}}, "", api.Edit{}, 0, api.ErrForm},
		{[]api.Token{a, {}}, "", api.Edit{}, 0, api.ErrForm},
		{[]api.Token{a}, "b", api.Edit{}, 0, api.ErrForm},
		{nil, "a", api.Edit{}, 0, api.ErrForm},
		{[]api.Token{a}, "#", api.Edit{At: 1, Old: 1}, 0, api.ErrForm},
		{[]api.Token{{Kind: "id", Text: "#"}}, "", api.Edit{}, 0, api.ErrForm},
		{many, "..", api.Edit{}, 0, api.ErrForm},
		{[]api.Token{a, b}, "", api.Edit{At: -1}, 0, api.ErrArg},
		{[]api.Token{a, b}, "", api.Edit{At: 4}, 0, api.ErrArg},
		{[]api.Token{a, b}, "", api.Edit{At: 3}, 0, api.OK},
		{[]api.Token{a, b}, "", api.Edit{At: 1, Old: -1}, 0, api.ErrArg},
		{[]api.Token{a, b}, "", api.Edit{At: 1, Old: 3}, 0, api.ErrArg},
		{[]api.Token{a, b}, "", api.Edit{At: 1, Old: 2}, 0, api.OK},
		{[]api.Token{a, b}, "", api.Edit{At: 1, Old: math.MaxInt}, 0, api.ErrArg},
		{[]api.Token{a, b}, "", api.Edit{At: math.MaxInt, Old: math.MaxInt}, 0, api.ErrArg},
		{[]api.Token{a, b}, "", api.Edit{At: math.MinInt, Old: math.MinInt}, 0, api.ErrArg},
		{[]api.Token{a, b}, "", api.Edit{At: 4, New: long + "    "}, 0, api.ErrArg},
		{[]api.Token{a, b}, "", api.Edit{At: 3, New: long + "#"}, 0, api.ErrLarge},
		{[]api.Token{a, b}, "", api.Edit{At: 2, Old: 1, New: long + " "}, 0, api.OK},
		{[]api.Token{a, b}, "", api.Edit{At: 3, New: long}, 0, api.OK},
		{[]api.Token{a, b}, "", api.Edit{At: 2, New: "x#"}, 3, api.ErrNone},
		{[]api.Token{a, b}, "", api.Edit{At: 0, New: "."}, 0, api.ErrNone},
		{many, "", api.Edit{At: 3, New: "a"}, 0, api.ErrFull},
		{many, "", api.Edit{At: 3, Old: 3, New: "a"}, 0, api.OK},
		{many, "", api.Edit{At: 3, New: "a#"}, 4, api.ErrNone},
	} {
		r, at, err := lex.Again(m, x.t, x.tail, x.e)
		is(t, []any{i, at, err}, []any{i, x.at, x.want})
		if err != api.OK {
			is(t, []any{i, r}, []any{i, api.Resplit{}})
		}
	}
}
