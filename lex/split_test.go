package lex_test

import (
	"math"
	"strings"
	"testing"

	"hedgelayer/api"
	"hedgelayer/lex"
)

// P2.5: the piece at an offset, and its sight.
func TestLongest(t *testing.T) {
	for _, x := range []struct {
		text, s string
		at      int
		want    api.Found
		err     api.Errno
	}{
		{example, "ab 12", 0, api.Found{Mark: 1, At: 0, Long: 2, Sight: 3}, api.OK},
		{example, "ab 12", 1, api.Found{Mark: 1, At: 1, Long: 1, Sight: 2}, api.OK},
		{example, "ab 12", 2, api.Found{Mark: 3, At: 2, Long: 1, Sight: 1}, api.OK},
		{example, "ab 12", 3, api.Found{Mark: 0, At: 3, Long: 2, Sight: 3}, api.OK},
		{example, "ab 12", 4, api.Found{Mark: 0, At: 4, Long: 1, Sight: 2}, api.OK},
		{example, "...", 0, api.Found{Mark: 2, At: 0, Long: 2, Sight: 2}, api.OK},
		{example, "...", 2, api.Found{At: 2, Sight: 2}, api.ErrNone},
		{example, "a.b", 1, api.Found{At: 1, Sight: 2}, api.ErrNone},
		{example, "a#b", 1, api.Found{At: 1, Sight: 1}, api.ErrNone},
		{"kw if\nid [a-z][a-z]*\n", "if", 0, api.Found{Mark: 0, Long: 2, Sight: 3}, api.OK},
		{"kw if\nid [a-z][a-z]*\n", "iff", 0, api.Found{Mark: 1, Long: 3, Sight: 4}, api.OK},
		{"id [a-z][a-z]*\nkw if\n", "if", 0, api.Found{Mark: 0, Long: 2, Sight: 3}, api.OK},
		{"a a\nb a*b\n", "aaab", 0, api.Found{Mark: 1, Long: 4, Sight: 4}, api.OK},
		{"a a\nb a*b\n", "aaac", 0, api.Found{Mark: 0, Long: 1, Sight: 4}, api.OK},
		{"a a\nb a*b\n", "aaa", 0, api.Found{Mark: 0, Long: 1, Sight: 4}, api.OK},
		{"a a\nb aaab\n", "aaac", 0, api.Found{Mark: 0, Long: 1, Sight: 4}, api.OK},
		{"a a\nb aaab\n", "aac", 0, api.Found{Mark: 0, Long: 1, Sight: 3}, api.OK},
		{"a a\nb aaab\n", "aaabb", 0, api.Found{Mark: 1, Long: 4, Sight: 4}, api.OK},
		{"a aaa\nb a\n", "aa", 0, api.Found{Mark: 1, Long: 1, Sight: 3}, api.OK},
		{"a aaa\n", "aab", 0, api.Found{Sight: 3}, api.ErrNone},
		{"a aaa\n", "aa", 0, api.Found{Sight: 3}, api.ErrNone},
		{"a aaa\n", "aa", 1, api.Found{At: 1, Sight: 2}, api.ErrNone},
		{"a a\nb a|b\n", "a", 0, api.Found{Mark: 0, Long: 1, Sight: 1}, api.OK},
		{"a [\\00-\\ff][\\00-\\ff]*\n", "\x00\xff", 0, api.Found{Mark: 0, Long: 2, Sight: 3}, api.OK},
		{example, "ab", -1, api.Found{}, api.ErrArg},
		{example, "ab", 2, api.Found{}, api.ErrArg},
		{example, "", 0, api.Found{}, api.ErrArg},
		{example, "ab", math.MinInt, api.Found{}, api.ErrArg},
		{example, "ab", math.MaxInt, api.Found{}, api.ErrArg},
		{example, strings.Repeat("a", api.MaxText), 1, api.Found{Mark: 1, At: 1, Long: api.MaxText - 1, Sight: api.MaxText}, api.OK},
		{example, strings.Repeat("a", api.MaxText+1), 1, api.Found{}, api.ErrLarge},
		{example, strings.Repeat("#", api.MaxText+1), -1, api.Found{}, api.ErrLarge},
	} {
		f, err := lex.Longest(marks(t, x.text), x.s, x.at)
		is(t, []any{x.text, x.at, f, err}, []any{x.text, x.at, x.want, x.err})
	}
}

// P2.5: all pieces.
func TestPieces(t *testing.T) {
	m := marks(t, example)
	p, at, err := lex.Pieces(m, "ab  1..")
	is(t, []any{at, err}, []any{0, api.OK})
	is(t, p, []api.Found{
		{Mark: 1, At: 0, Long: 2, Sight: 3},
		{Mark: 3, At: 2, Long: 1, Sight: 1},
		{Mark: 3, At: 3, Long: 1, Sight: 1},
		{Mark: 0, At: 4, Long: 1, Sight: 2},
		{Mark: 2, At: 5, Long: 2, Sight: 2},
	})
	p, at, err = lex.Pieces(m, "")
	is(t, []any{len(p), at, err}, []any{0, 0, api.OK})
	for _, x := range []struct {
		s    string
		at   int
		want api.Errno
	}{
		{"#", 0, api.ErrNone}, {"a#", 1, api.ErrNone}, {"ab 12.", 5, api.ErrNone}, {"a.b#", 1, api.ErrNone}, {"...", 2, api.ErrNone},
		{strings.Repeat(".", api.MaxText), 0, api.OK},
		{strings.Repeat(".", api.MaxText+1), 0, api.ErrLarge},
		{strings.Repeat("#", api.MaxText+1), 0, api.ErrLarge},
	} {
		p, at, err := lex.Pieces(m, x.s)
		is(t, []any{at, err}, []any{x.at, x.want})
		if err != api.OK {
			is(t, len(p), 0)
		}
		k, tail, at, err := lex.Split(m, x.s)
		if x.want != api.OK {
			is(t, []any{len(k), tail, at, err}, []any{0, "", x.at, x.want})
		}
	}
}

// P2.5: many pieces that are looked at up to the end of the text.
func TestPiecesFar(t *testing.T) {
	p, at, err := lex.Pieces(marks(t, "a a\nb a*b\n"), strings.Repeat("a", api.MaxText))
	is(t, []any{len(p), at, err}, []any{api.MaxText, 0, api.OK})
	is(t, p[7], api.Found{Mark: 0, At: 7, Long: 1, Sight: api.MaxText - 6})
}

// P2.6: tokens, their Leads, and the tail.
func TestSplit(t *testing.T) {
	const more = "id [a-z][a-z]*\n- \\20\n- \\0a\n- #[\\20-~]*\\0a\nop +|=\n"
	for _, x := range []struct {
		text, s string
		want    []api.Token
		tail    string
	}{
		{example, "", nil, ""},
		{example, "  ", nil, "  "},
		{example, "a ..  ", []api.Token{{Kind: "id", Text: "a"}, {Kind: "dots", Lead: " ", Text: ".."}}, "  "},
		{example, " a1b", []api.Token{{Kind: "id", Lead: " ", Text: "a"}, {Kind: "num", Text: "1"}, {Kind: "id", Text: "b"}}, ""},
		{more, "#x=1\n a=# b\n \nb+c#\n", []api.Token{
			{Kind: "id", Lead: "#x=1\n ", Text: "a"}, {Kind: "op", Text: "="},
			{Kind: "id", Lead: "# b\n \n", Text: "b"}, {Kind: "op", Text: "+"}, {Kind: "id", Text: "c"},
		}, "#\n"},
	} {
		k, tail, at, err := lex.Split(marks(t, x.text), x.s)
		is(t, []any{len(k), tail, at, err}, []any{len(x.want), x.tail, 0, api.OK})
		if len(x.want) > 0 {
			is(t, k, x.want)
		}
		s, err := lex.Joined(k, tail)
		is(t, []any{s, err}, []any{x.s, api.OK})
	}
}

// P2.6: as many tokens as there can be, and one more; that comes after ErrNone.
func TestSplitFull(t *testing.T) {
	m := marks(t, example)
	s := strings.Repeat(" ..", api.MaxTokens)
	k, tail, at, err := lex.Split(m, s+" ")
	is(t, []any{len(k), tail, at, err}, []any{api.MaxTokens, " ", 0, api.OK})
	k, tail, at, err = lex.Split(m, s+"a")
	is(t, []any{len(k), tail, at, err}, []any{0, "", 0, api.ErrFull})
	k, tail, at, err = lex.Split(m, s+"a#")
	is(t, []any{len(k), tail, at, err}, []any{0, "", len(s) + 1, api.ErrNone})
	p, at, err := lex.Pieces(m, s+"a")
	is(t, []any{len(p), at, err}, []any{2*api.MaxTokens + 1, 0, api.OK})
}

// P2.6: tokens that are joined need not be those of a text.
func TestJoined(t *testing.T) {
	half := strings.Repeat("a", api.MaxText/2)
	many := make([]api.Token, api.MaxTokens+1)
	for i, x := range []struct {
		t    []api.Token
		tail string
		want string
		err  api.Errno
	}{
		{nil, "", "", api.OK},
		{nil, "x", "x", api.OK},
		{[]api.Token{{Lead: "1", Text: "2"}, {Kind: "#", Lead: "", Text: "3"}, {Lead: "4"}}, "5", "12345", api.OK},
		{many[1:], half + half, half + half, api.OK},
		{many, "", "", api.ErrLarge},
		{nil, half + half + "a", "", api.ErrLarge},
		{[]api.Token{{Lead: half, Text: half}}, "a", "", api.ErrLarge},
		{[]api.Token{{Lead: half, Text: half[1:]}}, "a", half + half, api.OK},
		{[]api.Token{{Lead: half, Text: "a"}, {Text: half}}, "", "", api.ErrLarge},
		{[]api.Token{{Lead: half, Text: "a"}, {Lead: half}}, "", "", api.ErrLarge},
	} {
		s, err := lex.Joined(x.t, x.tail)
		is(t, []any{i, s, err}, []any{i, x.want, x.err})
	}
}

// P2.8: what can stand between two tokens.
func TestBetween(t *testing.T) {
	const lines = "id [a-z][a-z]*\ntext '[\\20-~]*\n- \\0a\n"
	const blanks = "id [a-z][a-z]*\n- \\20\n- \\0a\n"
	long := strings.Repeat("a", api.MaxText)
	for _, x := range []struct {
		text, s, t, want string
		ok               bool
		err              api.Errno
	}{
		{example, "a", "b", " ", true, api.OK},
		{example, "a", "1", "", true, api.OK},
		{example, "..", "..", "", true, api.OK},
		{blanks, "a", "b", " ", true, api.OK},
		{lines, "a", "b", "\n", true, api.OK},
		{lines, "'a ", "b", "\n", true, api.OK},
		{lines, "a", "'b", "", true, api.OK},
		{lines, "'", "'", "\n", true, api.OK},
		{"id a*b\na a\n", "a", "ab", "", false, api.OK},
		{"id a*b\na a\n", "ab", "a", "", true, api.OK},
		{"id a*b\na a\n", "a", "a", "", true, api.OK},
		{"a a\nb \\20b\nc \\0ab\nd ab\ne b\n", "a", "b", "", false, api.OK},
		{"a a\nb \\20b\nc \\0ab\nd ab\n- \\20\n", "a", " b", "", true, api.OK},
		{"a a\nb b\naa aab\n", "a", "b", "", true, api.OK},
		{"sp \\20\na a\nb aa\n- \\0a\n", "a", "a", "\n", true, api.OK},
		{example, "a", "", "", false, api.ErrForm},
		{example, "", "a", "", false, api.ErrForm},
		{example, "a1", "b", "", false, api.ErrForm},
		{example, "a", "b ", "", false, api.ErrForm},
		{example, "a", " b", "", false, api.ErrForm},
		{example, " ", "b", "", false, api.ErrForm},
		{example, "#", "b", "", false, api.ErrForm},
		{example, "a", ".", "", false, api.ErrForm},
		{example, long, "1", "", false, api.OK},
		{example, long[2:], "b", " ", true, api.OK},
		{example, long[1:], "b", "", false, api.OK},
		{example, long + "a", "1", "", false, api.ErrForm},
		{example, "1", long + "a", "", false, api.ErrForm},
	} {
		s, ok, err := lex.Between(marks(t, x.text), x.s, x.t)
		is(t, []any{x.text, x.s, x.t, s, ok, err}, []any{x.text, x.s, x.t, x.want, x.ok, x.err})
	}
}
