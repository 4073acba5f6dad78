package gram_test

import (
	"fmt"
	"reflect"
	"strings"
	"testing"

	"hedgelayer/api"
	"hedgelayer/gram"
)

// P1.3: the lines of a grammar.
func TestText(t *testing.T) {
	g := api.Grammar{Kinds: []string{"a", "b"}, Start: "s", Rules: []api.Rule{
		{Left: "s", Right: []string{"a", "s", "b"}},
		{Left: "s"},
		{Left: "t", Right: []string{"s"}, Level: 99},
		{Left: "t", Level: 1},
	}}
	want := "tokens a b\nstart s\ns = a s b\ns =\nt = s / 99\nt = / 1\n"
	s, err := gram.Text(g)
	is(t, []any{s, err}, []any{want, api.OK})
	h, line, err := gram.Read(want)
	is(t, []any{h, line, err}, []any{g, 0, api.OK})
	s, err = gram.Text(api.Grammar{Start: "s", Rules: []api.Rule{{Left: "s"}}})
	is(t, []any{s, err}, []any{"tokens\nstart s\ns =\n", api.OK})
	s, err = gram.Text(api.Grammar{Start: "s", Rules: []api.Rule{{Left: "s", Level: -1}}})
	is(t, []any{s, err}, []any{"", api.ErrArg})
}

// P1.3: lines that have not their form, and their numbers.
func TestReadSyntax(t *testing.T) {
	const head = "tokens a\nstart s\n"
	tests := []struct {
		text string
		line int
	}{
		{"", 0},
		{"\n", 0},
		{"tokens a", 0},
		{"tokens", 0},
		{"x", 0},
		{"x\n", 0},
		{"token a\nstart s\ns =\n", 0},
		{"Tokens a\nstart s\ns =\n", 0},
		{"tokens \nstart s\ns =\n", 0},
		{" tokens\nstart s\ns =\n", 0},
		{"tokens a  b\nstart s\ns =\n", 0},
		{"tokens a \nstart s\ns =\n", 0},
		{"start s\ntokens a\ns =\n", 0},
		{"tokens\n", 1},
		{"tokens\nstart s", 1},
		{"tokens\n\n", 1},
		{"tokens\nstart\ns =\n", 1},
		{"tokens\nstart \ns =\n", 1},
		{"tokens\nstart s t\ns =\n", 1},
		{"tokens\nstop s\ns =\n", 1},
		{"tokens\ns =\nstart s\n", 1},
		{head + "s = a", 2},
		{head + "\n", 2},
		{head + "s\n", 2},
		{head + "s a\n", 2},
		{head + "s a = a\n", 2},
		{head + "= a\n", 2},
		{head + "s= a\n", 2},
		{head + "s =a\n", 2},
		{head + "s = \n", 2},
		{head + "s =  a\n", 2},
		{head + "s = a \n", 2},
		{head + " s = a\n", 2},
		{head + "s = a / 0\n", 2},
		{head + "s = / 0\n", 2},
		{head + "s = a\n\n", 3},
		{head + "s = a\n\ns =\n", 3},
		{head + "s = a\ns = a\ns", 4},
		{head + "s = b\ns\n", 3},
	}
	for _, x := range tests {
		g, line, err := gram.Read(x.text)
		is(t, []any{x.text, g, line, err}, []any{x.text, api.Grammar{}, x.line, api.ErrSyntax})
	}
}

// P1.3: what has the form of a grammar, but is none, has Check's error, and no line.
func TestReadChecks(t *testing.T) {
	const head = "tokens a\nstart s\n"
	tests := map[string]api.Errno{
		head:                                   api.ErrNone,
		head + "s = b\n":                       api.ErrNone,
		head + "t = a\n":                       api.ErrNone,
		head + "s = a\ns = a / 1\n":            api.ErrTwice,
		head + "a = a\n":                       api.ErrConflict,
		head + "S = a\n":                       api.ErrName,
		"tokens a A\nstart s\ns =\n":           api.ErrName,
		"tokens b a\nstart s\ns =\n":           api.ErrOrder,
		"tokens a\r\nstart s\ns =\n":           api.ErrName,
		head + "s = a / 100\n":                 api.ErrArg,
		head + "s = a / 999999999\n":           api.ErrArg,
		head + "s = a / -1\n":                  api.ErrArg,
		head + "s = a / -999999999\n":          api.ErrArg,
		head + "s = a / 01\n":                  api.ErrNone, // no number: so / is a symbol
		head + "s = a / -0\n":                  api.ErrNone,
		head + "s = a / +1\n":                  api.ErrNone,
		head + "s = a / 1000000000\n":          api.ErrNone, // has ten digits
		head + "s = a /\n":                     api.ErrNone,
		head + "s = a / a\n":                   api.ErrNone,
		head + "s = a / 1 a\n":                 api.ErrNone,
		head + "s = a / 1 / 1\n":               api.ErrNone,
		head + "s = =\n":                       api.ErrNone,
		head + "s =" + nTimes(" a", 21) + "\n": api.ErrLarge,
	}
	for text, want := range tests {
		g, line, err := gram.Read(text)
		is(t, []any{text, g, line, err}, []any{text, api.Grammar{}, 0, want})
	}
}

func nTimes(s string, n int) string { return strings.Repeat(s, n) }

// P1.3: all symbols of the form are names for Read, too.
func TestReadLevels(t *testing.T) {
	g := read(t, "tokens start tokens\nstart s\ns = tokens start / 99\ns = / 7\n")
	is(t, g, api.Grammar{Kinds: []string{"start", "tokens"}, Start: "s", Rules: []api.Rule{
		{Left: "s", Right: []string{"tokens", "start"}, Level: 99}, {Left: "s", Level: 7}}})
}

// withText is a grammar whose Text has so many bytes (from 17,000 to 20,002).
func withText(long int) api.Grammar {
	wide := nTimes("w", 40)
	g := api.Grammar{Kinds: []string{"a", wide}, Start: "x000", Rules: rules(100)}
	size := len("tokens a \nstart x000\n") + len(wide)
	for i := range g.Rules {
		g.Rules[i].Right = []string{wide, wide, wide, wide}
		size += len("x000 =\n") + 4*len(" "+wide)
	}
	for i := 0; size+2 <= long; i++ {
		r := &g.Rules[i%len(g.Rules)]
		r.Right = append(r.Right, "a")
		size += 2
	}
	if size < long {
		g.Rules[1].Left += "x"
	}
	return g
}

// P1.3: MaxText of Text and Read.
func TestTextLimit(t *testing.T) {
	for _, long := range []int{api.MaxText - 1, api.MaxText} {
		g := withText(long)
		s, err := gram.Text(g)
		is(t, []any{len(s), err}, []any{long, api.OK})
		h, line, err := gram.Read(s)
		is(t, []any{reflect.DeepEqual(g, h), line, err}, []any{true, 0, api.OK})
		_, line, err = gram.Read(s + nTimes("\n", api.MaxText+1-long))
		is(t, []any{line, err}, []any{0, api.ErrLarge})
	}
	s, err := gram.Text(withText(api.MaxText + 1))
	is(t, []any{s, err}, []any{"", api.ErrLarge})
	_, line, err := gram.Read(nTimes("x", 200_000))
	is(t, []any{line, err}, []any{0, api.ErrLarge})
}

// Z10: Read accepts nothing but what Text writes.
func TestReadAcceptsNothingElse(t *testing.T) {
	const good = "tokens a b\nstart s\ns = a s b / 12\ns =\nt = / 3\n"
	signs := " \n\x00\tab/=-0123x_é"
	for at := range len(good) + 1 {
		for _, sign := range signs {
			for old := range 3 {
				text := good[:at] + string(sign) + good[min(at+old, len(good)):]
				g, _, err := gram.Read(text)
				if err != api.OK {
					continue
				}
				s, err := gram.Text(g)
				is(t, fmt.Sprintf("%q %v", s, err), fmt.Sprintf("%q %v", text, api.OK))
			}
		}
	}
}
