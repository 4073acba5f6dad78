package lex

import (
	"strings"

	"hedgelayer/api"
)

// Longest is the piece that begins at an offset.
func Longest(m []api.Mark, s string, at int) (api.Found, api.Errno) {
	x, err := checked(m)
	if err != api.OK {
		return api.Found{}, err
	}
	if len(s) > api.MaxText {
		return api.Found{}, api.ErrLarge
	}
	if at < 0 || at >= len(s) {
		return api.Found{}, api.ErrArg
	}
	f, ok := x.longest(s, at)
	if !ok {
		return f, api.ErrNone
	}
	return f, api.OK
}

// longest is the piece at an offset; if there is none, its offset and its sight are told all the same.
func (m *machine) longest(s string, at int) (api.Found, bool) {
	f := api.Found{At: at, Sight: len(s) - at + 1}
	now := 0
	for i := at; i < len(s); i++ {
		now = m.states[now].next[m.class[s[i]]]
		known := i + 1 - at
		if fits := m.states[now].fits; len(fits) > 0 {
			f.Mark, f.Long = fits[0], known
		}
		if m.states[now].stuck {
			f.Sight = known
			break
		}
	}
	return f, f.Long > 0
}

// Pieces are the pieces of a text.
func Pieces(m []api.Mark, s string) ([]api.Found, int, api.Errno) {
	x, err := checked(m)
	if err != api.OK {
		return nil, 0, err
	}
	return x.pieces(s)
}

func (m *machine) pieces(s string) ([]api.Found, int, api.Errno) {
	if len(s) > api.MaxText {
		return nil, 0, api.ErrLarge
	}
	var pieces []api.Found
	for at := 0; at < len(s); {
		f, ok := m.longest(s, at)
		if !ok {
			return nil, at, api.ErrNone
		}
		pieces = append(pieces, f)
		at += f.Long
	}
	return pieces, 0, api.OK
}

// cut is a text that has been split.
type cut struct {
	text   string
	pieces []api.Found
	tokens []api.Token
	tail   string
}

// Split are the tokens of a text.
func Split(m []api.Mark, s string) ([]api.Token, string, int, api.Errno) {
	x, err := checked(m)
	if err != api.OK {
		return nil, "", 0, err
	}
	c, at, err := x.split(m, s)
	return c.tokens, c.tail, at, err
}

// split splits a text by the marks of the machine.
func (m *machine) split(marks []api.Mark, s string) (cut, int, api.Errno) {
	pieces, at, err := m.pieces(s)
	if err != api.OK {
		return cut{}, at, err
	}
	c := cut{text: s, pieces: pieces}
	end := 0
	for _, f := range pieces {
		if kind := marks[f.Mark].Kind; kind != "" {
			c.tokens = append(c.tokens, api.Token{Kind: kind, Lead: s[end:f.At], Text: s[f.At : f.At+f.Long]})
			end = f.At + f.Long
		}
	}
	if len(c.tokens) > api.MaxTokens {
		return cut{}, 0, api.ErrFull
	}
	c.tail = s[end:]
	return c, 0, api.OK
}

// Joined is the text of tokens.
func Joined(t []api.Token, tail string) (string, api.Errno) {
	if len(t) > api.MaxTokens {
		return "", api.ErrLarge
	}
	long := len(tail)
	for _, token := range t {
		long += len(token.Lead) + len(token.Text)
	}
	if long > api.MaxText {
		return "", api.ErrLarge
	}
	var b strings.Builder
	for _, token := range t {
		b.WriteString(token.Lead)
		b.WriteString(token.Text)
	}
	b.WriteString(tail)
	return b.String(), api.OK
}

// Between is what can stand between two tokens.
func Between(m []api.Mark, s, t string) (string, bool, api.Errno) {
	x, err := checked(m)
	if err != api.OK {
		return "", false, err
	}
	for _, text := range []string{s, t} {
		if !x.splitsInto(m, text, []api.Token{{Text: text}}) {
			return "", false, api.ErrForm
		}
	}
	for _, lead := range []string{"", " ", "\n"} {
		if x.splitsInto(m, s+lead+t, []api.Token{{Text: s}, {Lead: lead, Text: t}}) {
			return lead, true, api.OK
		}
	}
	return "", false, api.OK
}

// splitsInto reports whether a text is split into just these tokens, of any Kinds, without a tail.
func (m *machine) splitsInto(marks []api.Mark, s string, t []api.Token) bool {
	c, _, err := m.split(marks, s)
	if err != api.OK || c.tail != "" || len(c.tokens) != len(t) {
		return false
	}
	for i, token := range c.tokens {
		if token.Lead != t[i].Lead || token.Text != t[i].Text {
			return false
		}
	}
	return true
}
