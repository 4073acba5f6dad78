package query

import (
	"strconv"
	"strings"

	"hedgelayer/api"
	"hedgelayer/scan"
)

// ruleDigits is how many digits the rule of a QueryNode has at the most.
const ruleDigits = 9

// Text writes a query.
func Text(q api.Query) (string, api.Errno) {
	if err := CheckQuery(q); err != api.OK {
		return "", err
	}
	var b strings.Builder
	writeQuery(&b, q)
	if b.Len() > api.MaxText {
		return "", api.ErrLarge
	}
	return b.String(), api.OK
}

// writeQuery writes a query; it ends early if there are too many bytes already.
func writeQuery(b *strings.Builder, q api.Query) {
	if b.Len() > api.MaxText {
		return
	}
	if q.Bind != "" {
		b.WriteString(q.Bind + "@")
	}
	switch q.Op {
	case api.QueryAny:
		b.WriteString("_")
	case api.QueryLeaf:
		writeLeaf(b, q)
	case api.QueryNode:
		b.WriteString("(" + strconv.Itoa(q.Rule))
		for _, arg := range q.Args {
			b.WriteString(" ")
			writeQuery(b, arg)
		}
		b.WriteString(")")
	case api.QueryEither:
		b.WriteString("{")
		writeQuery(b, q.Args[0])
		b.WriteString(" | ")
		writeQuery(b, q.Args[1])
		b.WriteString("}")
	case api.QueryNot:
		b.WriteString("!")
		writeQuery(b, q.Args[0])
	case api.QueryDeep:
		b.WriteString("^")
		writeQuery(b, q.Args[0])
	}
}

func writeLeaf(b *strings.Builder, q api.Query) {
	b.WriteString(q.Kind)
	if q.Text != "" || q.Lead != "" {
		scan.WriteQuote(b, q.Text)
	}
	if q.Lead != "" {
		b.WriteString(",")
		scan.WriteQuote(b, q.Lead)
	}
}

// Read reads a query.
func Read(text string) (api.Query, int, api.Errno) {
	if len(text) > api.MaxText {
		return api.Query{}, 0, api.ErrLarge
	}
	r := scan.Reader{Text: text}
	q, ok := readQuery(&r)
	if !ok || r.At < len(text) {
		return api.Query{}, r.At, api.ErrSyntax
	}
	if err := CheckQuery(q); err != api.OK {
		return api.Query{}, 0, err
	}
	return q, 0, api.OK
}

// readQuery reads a query of any size and depth.
func readQuery(r *scan.Reader) (api.Query, bool) {
	switch {
	case r.Take('{'):
		return readArgs(r, api.QueryEither, "_ | _}")
	case r.Take('!'):
		return readArgs(r, api.QueryNot, "_")
	case r.Take('^'):
		return readArgs(r, api.QueryDeep, "_")
	}
	q, ok := readNameless(r)
	// A name that stands ahead of a query is read as a leaf at first.
	if name := q.Kind; ok && name != "" && q.Text == "" && q.Lead == "" && r.Take('@') {
		q, ok = readNameless(r)
		q.Bind = name
	}
	return q, ok
}

// readArgs reads the Args of a query, for which _ stands in a form, and the other bytes of the form.
func readArgs(r *scan.Reader, op int, form string) (api.Query, bool) {
	q := api.Query{Op: op}
	for i := range len(form) {
		if form[i] != '_' {
			if !r.Take(form[i]) {
				return api.Query{}, false
			}
			continue
		}
		arg, ok := readQuery(r)
		if !ok {
			return api.Query{}, false
		}
		q.Args = append(q.Args, arg)
	}
	return q, true
}

// readNameless reads a query that can have a name ahead of it, without this name.
func readNameless(r *scan.Reader) (api.Query, bool) {
	switch {
	case r.Take('_'):
		return api.Query{Op: api.QueryAny}, true
	case r.Take('('):
		return readNode(r)
	}
	return readLeaf(r)
}

// readNode reads what stands behind an opening parenthesis, and the closing one.
func readNode(r *scan.Reader) (api.Query, bool) {
	rule, ok := r.Number(ruleDigits)
	if !ok {
		return api.Query{}, false
	}
	q := api.Query{Op: api.QueryNode, Rule: rule}
	for r.Take(' ') {
		arg, ok := readQuery(r)
		if !ok {
			return api.Query{}, false
		}
		q.Args = append(q.Args, arg)
	}
	return q, r.Take(')')
}

// readLeaf reads a Kind, and the quotes behind it, of which those that say nothing are not written.
func readLeaf(r *scan.Reader) (api.Query, bool) {
	kind, ok := r.Name()
	q := api.Query{Op: api.QueryLeaf, Kind: kind}
	if !ok || !strings.HasPrefix(r.Text[r.At:], `"`) {
		return q, ok
	}
	q.Text, ok = r.Quote()
	if !ok {
		return api.Query{}, false
	}
	if !r.Take(',') {
		return q, q.Text != ""
	}
	q.Lead, ok = readFilled(r)
	return q, ok
}

// readFilled reads the quote of a string that is not empty.
func readFilled(r *scan.Reader) (string, bool) {
	begin := r.At
	s, ok := r.Quote()
	if ok && s == "" {
		// The quote could have gone on, but for its end.
		r.At = begin + 1
		return "", false
	}
	return s, ok
}
