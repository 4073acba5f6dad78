package repair

import (
	"strings"

	"hedgelayer/api"
)

// leastStrings find the least string, all those of one part being equally long. kind and none tell the least ones of what is made of no others.
func leastStrings(kind func(kind, from, to int) string, none func(from, to int) string) ways[string] {
	return ways[string]{
		kind: kind,
		none: none,
		join: func(front, back string) string { return front + back },
		better: func(old, front, back string) (string, bool) {
			middle := len(front)
			if front > old[:middle] || front == old[:middle] && back >= old[middle:] {
				return old, false
			}
			return front + back, true
		},
	}
}

// leastFixes find the code of the least fixes. The code of fixes has two bytes for each one: of At and What, and of Kind.
func leastFixes(tokens []int, p api.Prices) ways[string] {
	kind := func(kind, from, to int) string {
		// The last one of several that can stay: an earlier deletion comes first.
		for at := to - 1; at >= from; at-- {
			if tokens[at] == kind {
				return deletions(from, at) + deletions(at+1, to)
			}
		}
		if from < to && p.Replace < p.Delete+p.Insert {
			return deletions(from, to-1) + fixCode(to-1, api.FixReplace, kind)
		}
		return fixCode(from, api.FixInsert, kind) + deletions(from, to)
	}
	return leastStrings(kind, deletions)
}

// deletions is the code of the deletions of tokens.
func deletions(from, to int) string {
	var b strings.Builder
	for at := from; at < to; at++ {
		b.WriteString(fixCode(at, api.FixDelete, 0))
	}
	return b.String()
}

func fixCode(at, what, kind int) string {
	return string([]byte{byte(4*at + what), byte(kind)})
}

// fixes are the fixes with a code.
func (n *grammar) fixes(code string) []api.Fix {
	var l []api.Fix
	for i := 0; i < len(code); i += 2 {
		f := api.Fix{At: int(code[i] / 4), What: int(code[i] % 4)}
		if f.What != api.FixDelete {
			f.Kind = n.names[code[i+1]]
		}
		l = append(l, f)
	}
	return l
}

// leastWords find the code of the least word to which a word is filled, see filling.
func leastWords() ways[string] {
	kind := func(kind, from, to int) string { return coded(kind) }
	none := func(from, to int) string { return "" }
	return leastStrings(kind, none)
}

// byLength compares codes of words: first by their numbers of tokens.
func byLength(a, b string) int {
	if len(a) != len(b) {
		return len(a) - len(b)
	}
	return strings.Compare(a, b)
}
