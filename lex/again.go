package lex

import (
	"slices"

	"hedgelayer/api"
)

// Again splits a text again behind an edit.
func Again(m []api.Mark, t []api.Token, tail string, e api.Edit) (api.Resplit, int, api.Errno) {
	x, err := checked(m)
	if err != api.OK {
		return api.Resplit{}, 0, err
	}
	text, err := Joined(t, tail)
	if err != api.OK {
		return api.Resplit{}, 0, err
	}
	old, _, err := x.split(m, text)
	if err != api.OK || old.tail != tail || !slices.Equal(old.tokens, t) {
		return api.Resplit{}, 0, api.ErrForm
	}
	edited, err := replaced(text, e)
	if err != api.OK {
		return api.Resplit{}, 0, err
	}
	now, at, err := x.split(m, edited)
	if err != api.OK {
		return api.Resplit{}, at, err
	}
	return compared(m, old, now, e), 0, api.OK
}

// replaced is the text behind an edit.
func replaced(text string, e api.Edit) (string, api.Errno) {
	if e.At < 0 || e.At > len(text) || e.Old < 0 || e.Old > len(text)-e.At {
		return "", api.ErrArg
	}
	if len(text)-e.Old+len(e.New) > api.MaxText {
		return "", api.ErrLarge
	}
	return text[:e.At] + e.New + text[e.At+e.Old:], api.OK
}

// compared tells what an edit has left of a text.
func compared(m []api.Mark, old, now cut, e api.Edit) api.Resplit {
	r := api.Resplit{Tokens: now.tokens, Tail: now.tail}
	for _, f := range now.pieces {
		if f.At+f.Sight > e.At {
			break
		}
		r.From = f.At + f.Long
		if m[f.Mark].Kind != "" {
			r.Ahead++
		}
	}
	r.To = meeting(old, now, e.At+len(e.New))
	for _, f := range now.pieces {
		if f.At >= r.From && f.At < r.To {
			r.Found++
		}
	}
	before := fromEnd(old.text, old.begins())
	for _, at := range now.begins() {
		if at >= r.To && before[len(now.text)-at] {
			r.Behind++
		}
	}
	return r
}

// meeting is the first place of the new text from an offset on that is one of the old text, too, at the same distance from the end.
func meeting(old, now cut, least int) int {
	var places []int
	for _, f := range old.pieces {
		places = append(places, f.At)
	}
	before := fromEnd(old.text, places)
	for _, f := range now.pieces {
		if f.At >= least && before[len(now.text)-f.At] {
			return f.At
		}
	}
	return len(now.text)
}

// fromEnd are the distances of offsets from the end of a text.
func fromEnd(text string, offsets []int) map[int]bool {
	distances := map[int]bool{}
	for _, at := range offsets {
		distances[len(text)-at] = true
	}
	return distances
}

// begins are the offsets at which the tokens begin, with their Leads.
func (c cut) begins() []int {
	at := 0
	var begins []int
	for _, token := range c.tokens {
		begins = append(begins, at)
		at += len(token.Lead) + len(token.Text)
	}
	return begins
}
