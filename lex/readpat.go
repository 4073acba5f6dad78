package lex

import (
	"strings"

	"hedgelayer/api"
)

// ReadPat reads a pattern.
func ReadPat(text string) (api.Pat, api.Errno) {
	if len(text) > api.MaxText {
		return api.Pat{}, api.ErrLarge
	}
	p, ok := readPat(text)
	if !ok {
		return api.Pat{}, api.ErrSyntax
	}
	if err := CheckPat(p); err != api.OK {
		return api.Pat{}, err
	}
	return p, api.OK
}

// readPat reads a pattern that may be too deep or have too many patterns in it; nothing else can be wrong with it.
func readPat(text string) (api.Pat, bool) {
	r := patReader{text: text}
	p, ok := r.choice()
	if !ok || p.inside || r.at < len(text) {
		return api.Pat{}, false
	}
	return p.pat, true
}

// patReader reads the text of a pattern from at on.
type patReader struct {
	text string
	at   int
}

// part is a pattern that has been read.
type part struct {
	pat    api.Pat
	inside bool // it stood in parentheses
}

// peek reports whether one of some bytes comes.
func (r *patReader) peek(bytes string) bool {
	return r.at < len(r.text) && strings.IndexByte(bytes, r.text[r.at]) >= 0
}

// take goes on if a byte comes.
func (r *patReader) take(c string) bool {
	if !r.peek(c) {
		return false
	}
	r.at++
	return true
}

// choice reads chains with | between them.
func (r *patReader) choice() (part, bool) {
	var parts []part
	for {
		p, ok := r.chain()
		if !ok {
			return part{}, false
		}
		parts = append(parts, p)
		if !r.take("|") {
			break
		}
	}
	if len(parts) == 1 {
		return parts[0], true
	}
	for _, p := range parts {
		if p.inside && p.pat.Op != api.PatOr {
			return part{}, false
		}
	}
	return together(api.PatOr, parts), true
}

// chain reads at least one pattern, each one behind the other.
func (r *patReader) chain() (part, bool) {
	var parts []part
	for r.at < len(r.text) && !r.peek("|)") {
		p, ok := r.repeated()
		if !ok {
			return part{}, false
		}
		parts = append(parts, p)
	}
	switch len(parts) {
	case 0:
		return part{}, false
	case 1:
		return parts[0], true
	}
	return together(api.PatThen, parts), true
}

func together(op int, parts []part) part {
	args := make([]api.Pat, len(parts))
	for i, p := range parts {
		args[i] = p.pat
	}
	return part{pat: api.Pat{Op: op, Args: args}}
}

// repeated reads a pattern with any number of * behind it.
func (r *patReader) repeated() (part, bool) {
	p, ok := r.single()
	if !ok {
		return part{}, false
	}
	for r.take("*") {
		p = together(api.PatStar, []part{p})
	}
	return p, true
}

func (r *patReader) single() (part, bool) {
	if r.take("(") {
		return r.group()
	}
	if r.take("[") {
		return r.span()
	}
	c, ok := r.char()
	return part{pat: api.Pat{Op: api.PatBytes, Low: c, High: c}}, ok
}

// group reads what stands behind an opening parenthesis, and the closing one.
func (r *patReader) group() (part, bool) {
	if r.take(")") {
		return part{pat: api.Pat{Op: api.PatThen}}, true
	}
	p, ok := r.choice()
	if !ok || p.inside || !isGroup(p.pat) || !r.take(")") {
		return part{}, false
	}
	return part{p.pat, true}, true
}

// span reads what stands behind an opening bracket, and the closing one.
func (r *patReader) span() (part, bool) {
	low, ok := r.char()
	if !ok || !r.take("-") {
		return part{}, false
	}
	high, ok := r.char()
	if !ok || low >= high || !r.take("]") {
		return part{}, false
	}
	return part{pat: api.Pat{Op: api.PatBytes, Low: low, High: high}}, true
}

// char reads a byte that is written as it is, or with digits.
func (r *patReader) char() (int, bool) {
	if r.take(`\`) {
		return r.digits()
	}
	if r.at == len(r.text) || !isOpen(r.text[r.at]) {
		return 0, false
	}
	c := r.text[r.at]
	r.at++
	return int(c), true
}

func (r *patReader) digits() (int, bool) {
	if len(r.text)-r.at < 2 {
		return 0, false
	}
	high := strings.IndexByte(hexDigits, r.text[r.at])
	low := strings.IndexByte(hexDigits, r.text[r.at+1])
	r.at += 2
	if high < 0 || low < 0 || isOpen(byte(high<<4|low)) {
		return 0, false
	}
	return high<<4 | low, true
}
