package gram

import (
	"slices"
	"strconv"
	"strings"

	"hedgelayer/api"
	"hedgelayer/scan"
)

// levelDigits is how many digits the level of a rule has at the most.
const levelDigits = 9

// Text writes a grammar.
func Text(g api.Grammar) (string, api.Errno) {
	if err := Check(g); err != api.OK {
		return "", err
	}
	var b strings.Builder
	writeLine(&b, "tokens", g.Kinds, 0)
	writeLine(&b, "start", []string{g.Start}, 0)
	for _, r := range g.Rules {
		writeLine(&b, r.Left+" =", r.Right, r.Level)
	}
	if b.Len() > api.MaxText {
		return "", api.ErrLarge
	}
	return b.String(), api.OK
}

func writeLine(b *strings.Builder, head string, symbols []string, level int) {
	b.WriteString(head)
	for _, symbol := range symbols {
		b.WriteString(" ")
		b.WriteString(symbol)
	}
	if level != 0 {
		b.WriteString(" / ")
		b.WriteString(strconv.Itoa(level))
	}
	b.WriteString("\n")
}

// Read reads a grammar.
func Read(text string) (api.Grammar, int, api.Errno) {
	if len(text) > api.MaxText {
		return api.Grammar{}, 0, api.ErrLarge
	}
	var g api.Grammar
	lines, ended := scan.Lines(text)
	for i, line := range lines {
		open := i == len(lines)-1 && !ended
		if open || !readLine(&g, i, line) {
			return api.Grammar{}, i, api.ErrSyntax
		}
	}
	if len(lines) < 2 {
		return api.Grammar{}, len(lines), api.ErrSyntax
	}
	if err := Check(g); err != api.OK {
		return api.Grammar{}, 0, err
	}
	return g, 0, api.OK
}

// readLine puts into g what line i says; false if it has not its form.
func readLine(g *api.Grammar, i int, line string) bool {
	words, ok := scan.Words(line)
	if !ok {
		return false
	}
	switch i {
	case 0:
		g.Kinds = slices.Clone(words[1:])
		return words[0] == "tokens"
	case 1:
		g.Start = words[len(words)-1]
		return len(words) == 2 && words[0] == "start"
	}
	r, ok := readRule(words)
	g.Rules = append(g.Rules, r)
	return ok
}

func readRule(words []string) (api.Rule, bool) {
	if len(words) < 2 || words[1] != "=" {
		return api.Rule{}, false
	}
	right, level := words[2:], 0
	if n := len(right); n >= 2 && right[n-2] == "/" {
		if number, ok := scan.Number(right[n-1], levelDigits); ok {
			if number == 0 {
				return api.Rule{}, false
			}
			right, level = right[:n-2], number
		}
	}
	return api.Rule{Left: words[0], Right: slices.Clone(right), Level: level}, true
}
