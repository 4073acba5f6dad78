package repair_test

import (
	"math"
	"strings"
	"testing"

	"hedgelayer/api"
	"hedgelayer/repair"
)

// P9.4: a line for each fix, and back.
func TestText(t *testing.T) {
	name := strings.Repeat("k", 40)
	for s, want := range map[string]string{
		"":                              "",
		"0 + a":                         "0 + a\n",
		"40 -":                          "40 -\n",
		"7 = b_2":                       "7 = b_2\n",
		"1 + plus, 2 -":                 "1 + plus\n2 -\n",
		"9 -, 9 -, 3 = x, 3 + x, 4 = x": "9 -\n9 -\n3 = x\n3 + x\n4 = x\n", // order is no matter here
		"40 + " + name:                  "40 + " + name + "\n",
	} {
		text, err := repair.Text(fixes(s))
		is(t, []any{text, err}, []any{want, api.OK})
		l, line, err := repair.Read(want)
		is(t, []any{l, line, err}, []any{fixes(s), 0, api.OK})
	}
}

// P9.4: the errors of Text, which Read has, too.
func TestTextErrors(t *testing.T) {
	tests := []struct {
		f    api.Fix
		want api.Errno
	}{
		{api.Fix{At: 41, What: 9, Kind: "X"}, api.ErrKind},
		{api.Fix{}, api.ErrKind},
		{api.Fix{At: 41, What: api.FixDelete, Kind: "X"}, api.ErrArg},
		{api.Fix{At: -1, What: api.FixInsert, Kind: "X"}, api.ErrArg},
		{api.Fix{At: math.MinInt, What: api.FixReplace, Kind: "x"}, api.ErrArg},
		{api.Fix{At: math.MaxInt, What: api.FixReplace, Kind: "x"}, api.ErrArg},
		{api.Fix{At: 40, What: api.FixDelete, Kind: "X"}, api.ErrForm},
		{api.Fix{At: 40, What: api.FixDelete, Kind: "x"}, api.ErrForm},
		{api.Fix{At: 40, What: api.FixInsert, Kind: "X"}, api.ErrName},
		{api.Fix{At: 40, What: api.FixReplace, Kind: "2"}, api.ErrName},
		{api.Fix{At: 40, What: api.FixInsert}, api.ErrName},
		{api.Fix{At: 40, What: api.FixInsert, Kind: strings.Repeat("k", 41)}, api.ErrName},
	}
	for _, x := range tests {
		text, err := repair.Text([]api.Fix{{What: api.FixDelete}, x.f, {What: 9}})
		is(t, []any{x, text, err}, []any{x, "", x.want})
	}
	text, err := repair.Text(inserts(80, "a"))
	is(t, []any{text, err}, []any{strings.Repeat("0 + a\n", 80), api.OK})
	text, err = repair.Text(inserts(81, "a"))
	is(t, []any{text, err}, []any{"", api.ErrLarge})
	_, err = repair.Text(make([]api.Fix, 200_000))
	is(t, err, api.ErrLarge)
}

// P9.4: what Read takes, and in which line something else stands.
func TestRead(t *testing.T) {
	tests := []struct {
		text string
		line int
		want api.Errno
	}{
		{"0 + a", 0, api.ErrSyntax},
		{"0 -\n1 -", 1, api.ErrSyntax},
		{"\n", 0, api.ErrSyntax},
		{"0 -\n\n", 1, api.ErrSyntax},
		{"0 -\n 1 -\n", 1, api.ErrSyntax},
		{"0 - \n", 0, api.ErrSyntax},
		{"0  -\n", 0, api.ErrSyntax},
		{"0\n", 0, api.ErrSyntax},
		{"0 +\n", 0, api.ErrSyntax},
		{"0 =\n", 0, api.ErrSyntax},
		{"0 + \n", 0, api.ErrSyntax},
		{"0 - a\n", 0, api.ErrSyntax},
		{"0 + a b\n", 0, api.ErrSyntax},
		{"0 + a / 1\n", 0, api.ErrSyntax},
		{"0 * a\n", 0, api.ErrSyntax},
		{"0 ++ a\n", 0, api.ErrSyntax},
		{"0+ a\n", 0, api.ErrSyntax},
		{"00 -\n", 0, api.ErrSyntax},
		{"01 -\n", 0, api.ErrSyntax},
		{"-0 -\n", 0, api.ErrSyntax},
		{"+1 -\n", 0, api.ErrSyntax},
		{"x -\n", 0, api.ErrSyntax},
		{"1\t-\n", 0, api.ErrSyntax},
		{"1 -\r\n", 0, api.ErrSyntax},
		{"1000000000 -\n", 0, api.ErrSyntax},
		{"-1000000000 -\n", 0, api.ErrSyntax},
		{"999999999 -\n", 0, api.ErrArg},
		{"-999999999 -\n", 0, api.ErrArg},
		{"-1 + a\n", 0, api.ErrArg},
		{"41 -\n", 0, api.ErrArg},
		{"0 + A\n", 0, api.ErrName},
		{"0 = -\n", 0, api.ErrName},
		{"0 = a\t\n", 0, api.ErrName},
		{"41 -\n0 * a\n", 1, api.ErrSyntax}, // the form of all lines comes first
		{"0 + A\n41 -\n", 0, api.ErrName},
		{strings.Repeat("1 -\n", 80), 0, api.OK},
		{strings.Repeat("1 -\n", 81), 0, api.ErrLarge},
		{strings.Repeat("1 -\n", 5_000), 0, api.ErrLarge},
		{strings.Repeat("1 -\n", 4_999) + "1 *\n", 4_999, api.ErrSyntax},
		{strings.Repeat("1 *\n", 5_000) + "1", 0, api.ErrLarge}, // more than MaxText bytes
		{strings.Repeat("x", 20_000), 0, api.ErrSyntax},
		{strings.Repeat("x", 20_001), 0, api.ErrLarge},
		{strings.Repeat("x", 200_000), 0, api.ErrLarge},
	}
	for i, x := range tests {
		l, line, err := repair.Read(x.text)
		is(t, []any{i, line, err}, []any{i, x.line, x.want})
		is(t, []any{i, len(l) > 0}, []any{i, x.want == api.OK})
	}
}
