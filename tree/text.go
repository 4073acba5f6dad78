package tree

import (
	"strconv"
	"strings"

	"hedgelayer/api"
	"hedgelayer/scan"
)

// ruleDigits is how many digits the rule of a node has at the most.
const ruleDigits = 9

// Dump writes a tree.
func Dump(t api.Tree) (string, api.Errno) {
	if err := CheckTree(t); err != api.OK {
		return "", err
	}
	var b strings.Builder
	writeTree(&b, t)
	if b.Len() > api.MaxText {
		return "", api.ErrLarge
	}
	return b.String(), api.OK
}

func writeTree(b *strings.Builder, t api.Tree) {
	if isLeaf(t) {
		b.WriteString(t.Token.Kind)
		scan.WriteQuote(b, t.Token.Lead)
		scan.WriteQuote(b, t.Token.Text)
		return
	}
	b.WriteString("(")
	b.WriteString(strconv.Itoa(t.Rule))
	for _, kid := range t.Kids {
		b.WriteString(" ")
		writeTree(b, kid)
	}
	b.WriteString(")")
}

// Read reads a tree.
func Read(text string) (api.Tree, int, api.Errno) {
	if len(text) > api.MaxText {
		return api.Tree{}, 0, api.ErrLarge
	}
	r := scan.Reader{Text: text}
	t, ok := readTree(&r)
	if !ok || r.At < len(text) {
		return api.Tree{}, r.At, api.ErrSyntax
	}
	if err := CheckTree(t); err != api.OK {
		return api.Tree{}, 0, err
	}
	return t, 0, api.OK
}

// readTree reads a tree of any size and depth.
func readTree(r *scan.Reader) (api.Tree, bool) {
	if r.Take('(') {
		return readNode(r)
	}
	return readLeaf(r)
}

func readLeaf(r *scan.Reader) (api.Tree, bool) {
	kind, ok := r.Name()
	if !ok {
		return api.Tree{}, false
	}
	lead, ok := r.Quote()
	if !ok {
		return api.Tree{}, false
	}
	text, ok := r.Quote()
	return api.Tree{Rule: leafRule, Token: api.Token{Kind: kind, Lead: lead, Text: text}}, ok
}

// readNode reads what stands behind an opening parenthesis, and the closing one.
func readNode(r *scan.Reader) (api.Tree, bool) {
	rule, ok := r.Number(ruleDigits)
	if !ok {
		return api.Tree{}, false
	}
	node := api.Tree{Rule: rule}
	for r.Take(' ') {
		kid, ok := readTree(r)
		if !ok {
			return api.Tree{}, false
		}
		node.Kids = append(node.Kids, kid)
	}
	return node, r.Take(')')
}
