package edit_test

import (
	"strings"
	"testing"

	"hedgelayer/api"
	"hedgelayer/edit"
)

// These tests ask what happens just at the limits.

// later are edits with so many bytes more ahead of them.
func later(l []api.Edit, by int) []api.Edit {
	for i := range l {
		l[i].At += by
	}
	return l
}

// count is how many edits there are, and the error.
func count(l []api.Edit, err api.Errno) []any { return []any{len(l), err} }

// P6.3: a result of Then can have MaxEdits edits, and not one more.
func TestThenLarge(t *testing.T) {
	a := spread(1_500, 0, "x")
	b := later(spread(501, 0, "y"), 5_000)
	is(t, count(edit.Then(9_000, a, b[:500])), count(make([]api.Edit, 2_000), api.OK))
	is(t, count(edit.Then(9_000, a, b)), count(nil, api.ErrLarge))
	is(t, count(edit.Fold(9_000, [][]api.Edit{a, b[:500]})), count(make([]api.Edit, 2_000), api.OK))
	is(t, count(edit.Fold(9_000, [][]api.Edit{a, b})), count(nil, api.ErrLarge))
	most := spread(api.MaxEdits, 0, "x")
	back, err := edit.Inverse(letters(9_000), most)
	is(t, []any{len(back), err}, []any{api.MaxEdits, api.OK})
	is(t, count(edit.Then(9_000, most, back)), count(nil, api.OK))
	is(t, count(edit.Then(9_000, most, later(spread(api.MaxEdits, 0, "y"), 1))), count(most, api.OK))
	is(t, count(edit.Then(9_000, most, edits("11000,0,y"))), count(nil, api.ErrLarge))
}

// P6.3: each step of Fold can have MaxEdits edits; all checks come first.
func TestFoldLarge(t *testing.T) {
	a := spread(1_500, 0, "x")
	b := later(spread(501, 0, "y"), 5_000)
	all := edits("0,10000,")
	is(t, count(edit.Fold(9_000, [][]api.Edit{a, b[:500], all})), count(edits("0,8000,"), api.OK))
	is(t, count(edit.Fold(9_000, [][]api.Edit{a, b, all})), count(nil, api.ErrLarge))
	is(t, count(edit.Fold(9_000, [][]api.Edit{a, b, edits("0,0,")})), count(nil, api.ErrForm))
	is(t, count(edit.Fold(9_000, [][]api.Edit{a, b, edits("11002,0,x")})), count(nil, api.ErrArg))
	is(t, count(edit.Fold(9_000, [][]api.Edit{a, b, nil, edits("11001,0,x"), edits("0,0,x 0,0,y")})), count(nil, api.ErrOrder))
}

// P6.3: many changes can be folded.
func TestFoldMany(t *testing.T) {
	var l [][]api.Edit
	for i := range 100_000 {
		l = append(l, []api.Edit{{At: i % 1_000 * 2, Old: 1, New: "x"}})
	}
	got, err := edit.Fold(2_000, l)
	is(t, []any{len(got), err, got[999]}, []any{1_000, api.OK, api.Edit{At: 1_998, Old: 1, New: "x"}})
	grow := make([][]api.Edit, api.MaxText)
	for i := range grow {
		grow[i] = []api.Edit{{At: i, New: "x"}}
	}
	got, err = edit.Fold(0, grow)
	is(t, []any{got, err}, []any{[]api.Edit{{New: strings.Repeat("x", api.MaxText)}}, api.OK})
	_, err = edit.Fold(0, append(grow, edits("0,0,x")))
	is(t, err, api.ErrLarge)
}

// P6.4: a result of Both can have MaxEdits edits; one more does not matter to Past.
func TestBothLarge(t *testing.T) {
	a := spread(1_500, 0, "x")
	b := later(spread(501, 1, "y"), 5_000)
	is(t, count(edit.Both(9_000, a, b[:500])), count(make([]api.Edit, 2_000), api.OK))
	is(t, count(edit.Both(9_000, a, b)), count(nil, api.ErrLarge))
	is(t, count(edit.Both(9_000, b, a)), count(nil, api.ErrLarge))
	p, q, err := edit.Past(9_000, a, b)
	is(t, []any{len(p), len(q), err}, []any{501, 1_500, api.OK})
}

// P6.4: each result of Past can have MaxEdits edits; what Both has does not matter.
func TestPastLarge(t *testing.T) {
	all := edits("0,9000,")
	cuts := later(spread(api.MaxEdits, 0, "x"), 1)
	p, q, err := edit.Past(9_000, cuts[1:], all)
	is(t, []any{len(p), len(q), err}, []any{api.MaxEdits, 1, api.OK})
	p, q, err = edit.Past(9_000, all, cuts[1:])
	is(t, []any{len(p), len(q), err}, []any{1, api.MaxEdits, api.OK})
	p, q, err = edit.Past(9_000, cuts, all)
	is(t, []any{len(p), len(q), err}, []any{0, 0, api.ErrLarge})
	p, q, err = edit.Past(9_000, all, cuts)
	is(t, []any{len(p), len(q), err}, []any{0, 0, api.ErrLarge})
	is(t, count(edit.Both(9_000, all, cuts)), count(all, api.OK))
}

// P6.4: the text after both can have MaxText bytes, and not one more.
func TestBothTextLarge(t *testing.T) {
	tests := []struct {
		n    int
		a, b string
		want api.Errno
	}{
		{api.MaxText - 2, "0,0,x", "9,0,x", api.OK}, {api.MaxText - 2, "0,0,x", "9,0,xx", api.ErrLarge}, {api.MaxText - 2, "0,0,xx", "9,0,x", api.ErrLarge},
		{api.MaxText, "0,2,xx", "0,2,", api.OK}, {api.MaxText, "0,2,xx", "0,2,y", api.ErrLarge}, {api.MaxText, "0,2,xx", "0,2,y 5,1,", api.OK}, {api.MaxText, "0,2,xx", "0,1,y", api.ErrLarge}, {api.MaxText, "0,2,x", "0,1,y", api.OK},
	}
	for _, x := range tests {
		l, err := edit.Both(x.n, edits(x.a), edits(x.b))
		p, q, err2 := edit.Past(x.n, edits(x.a), edits(x.b))
		is(t, []any{x, err, err2}, []any{x, x.want, x.want})
		is(t, []any{x, len(l)+len(p)+len(q) > 0}, []any{x, x.want == api.OK})
	}
	half := []api.Edit{{New: letters(api.MaxText / 2)}}
	is(t, count(edit.Both(0, half, half)), count(half, api.OK))
	is(t, count(edit.Both(1, half, half)), count(nil, api.ErrLarge))
}

// P6.6: texts of MaxDiff bytes are compared.
func TestDiffLarge(t *testing.T) {
	most, more := letters(api.MaxDiff), letters(api.MaxDiff+1)
	is(t, count(edit.Diff(most, most)), count(nil, api.OK))
	is(t, count(edit.Diff(more, "")), count(nil, api.ErrLarge))
	is(t, count(edit.Diff("", more)), count(nil, api.ErrLarge))
	is(t, count(edit.Diff(more, letters(api.MaxText+1))), count(nil, api.ErrLarge))
	is(t, count(edit.Diff(most, "")), count(edits("0,1000,"), api.OK))
	is(t, count(edit.Diff(strings.Repeat("ab", 500), strings.Repeat("ac", 500))), count(make([]api.Edit, 500), api.OK))
	l, err := edit.Diff(strings.Repeat("ab", 500), strings.Repeat("b", 1_000))
	is(t, []any{len(l), l[499], l[500], err}, []any{501, api.Edit{At: 998, Old: 1}, api.Edit{At: 1_000, New: strings.Repeat("b", 500)}, api.OK})
}

// P6.7: a Text has at most MaxEdits edits and MaxText bytes; the number of edits is asked for first, then each one, and then the bytes.
func TestTextLarge(t *testing.T) {
	const line = "0 0 \"\"\n"
	l := make([]api.Edit, api.MaxEdits+1)
	s, err := edit.Text(l[1:])
	is(t, []any{s == strings.Repeat(line, api.MaxEdits), err}, []any{true, api.OK})
	got, at, err := edit.Read(s)
	is(t, []any{len(got), at, err}, []any{api.MaxEdits, 0, api.OK})
	s, err = edit.Text(l)
	is(t, []any{s, err}, []any{"", api.ErrLarge})
	got, at, err = edit.Read(strings.Repeat(line, api.MaxEdits+1))
	is(t, []any{len(got), at, err}, []any{0, 0, api.ErrLarge})
	got, at, err = edit.Read("-1 0 \"\"\n" + strings.Repeat(line, api.MaxEdits))
	is(t, []any{len(got), at, err}, []any{0, 0, api.ErrLarge})
	_, at, err = edit.Read(strings.Repeat(line, api.MaxEdits+1) + "x")
	is(t, []any{at, err}, []any{api.MaxEdits + 1, api.ErrSyntax})
	l[0].At = -1
	_, err = edit.Text(l)
	is(t, err, api.ErrLarge)

	long := []api.Edit{{New: letters(api.MaxText - len(line))}, {At: -1}}
	s, err = edit.Text(long[:1])
	is(t, []any{len(s), err}, []any{api.MaxText, api.OK})
	got, at, err = edit.Read(s)
	is(t, []any{got, at, err}, []any{long[:1], 0, api.OK})
	long[0].New += "a"
	s, err = edit.Text(long[:1])
	is(t, []any{s, err}, []any{"", api.ErrLarge})
	_, err = edit.Text(long)
	is(t, err, api.ErrArg)
	for _, rest := range []string{"x", "\n", "\"\n"} {
		_, at, err = edit.Read(letters(api.MaxText) + rest)
		is(t, []any{at, err}, []any{0, api.ErrLarge})
	}
	_, at, err = edit.Read(letters(api.MaxText))
	is(t, []any{at, err}, []any{0, api.ErrSyntax})
	s, err = edit.Text([]api.Edit{{New: strings.Repeat("\n", 6_664)}})
	is(t, []any{len(s), err}, []any{19_999, api.OK})
	s, err = edit.Text([]api.Edit{{New: strings.Repeat("\n", 6_665)}})
	is(t, []any{s, err}, []any{"", api.ErrLarge})
}
