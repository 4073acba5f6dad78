package gram

import (
	"slices"

	"hedgelayer/api"
)

// Words are all words of a grammar up to a length.
func Words(g api.Grammar, most int) ([][]string, api.Errno) {
	n, err := numbered(g)
	if err != api.OK {
		return nil, err
	}
	if most < 0 || most > api.MaxShort {
		return nil, api.ErrArg
	}
	if n.lengths()[n.start] == noWord {
		return nil, api.OK
	}
	l := newLister(n.trimmed(), most)
	for long := range most + 1 {
		l.list(long)
	}
	if l.full {
		return nil, api.ErrFull
	}
	var words [][]string
	for _, codes := range l.found[n.start] {
		slices.Sort(codes)
		for _, code := range codes {
			words = append(words, n.decoded(code))
		}
	}
	return words, api.OK
}

// lister finds the words of all parts of a trimmed grammar, the shorter ones first. Words are codes (see coded).
//
// It keeps only words that can stand in a word of the grammar with at most most tokens. Each word of a part can
// stand there between the same tokens, so no part has more words than the grammar, and none more than MaxWords
// if the grammar has not.
type lister struct {
	grammar
	parts  []part
	limits []int             // for each part how many tokens its words have at the most
	above  [][]int           // for each part the parts that have all of its words
	known  []map[string]bool // for each part its words
	found  [][][]string      // the same, by their lengths
	full   bool
}

func newLister(n grammar, most int) *lister {
	parts := n.parts()
	l := &lister{grammar: n, parts: parts, limits: n.limits(parts, most), above: n.above(parts)}
	for range parts {
		l.known = append(l.known, map[string]bool{})
		l.found = append(l.found, make([][]string, most+1))
	}
	return l
}

// limits are, for each part, the lengths of the longest words that words of the grammar with at most most tokens leave room for; below 0 if they leave none.
func (n grammar) limits(parts []part, most int) []int {
	limits := make([]int, len(parts))
	for i := range limits {
		limits[i] = -1
	}
	limits[n.start] = most
	settle(func() bool {
		changed := false
		for i := len(n.names); i < len(parts); i++ {
			p := parts[i]
			limits[i] = limits[p.left] - p.rest
			ahead := 0
			if p.front >= 0 {
				ahead = parts[p.front].least
			}
			if room := limits[i] - ahead; room > limits[p.back] {
				limits[p.back] = room
				changed = true
			}
		}
		return changed
	})
	return limits
}

// above are, for each part, the parts that become the same words because all other symbols in them can become empty.
func (n grammar) above(parts []part) [][]int {
	above := make([][]int, len(parts))
	for i := len(n.names); i < len(parts); i++ {
		p := parts[i]
		if p.front < 0 || parts[p.front].least == 0 {
			above[p.back] = append(above[p.back], i)
		}
		if p.front >= 0 && parts[p.back].least == 0 {
			above[p.front] = append(above[p.front], i)
		}
		if p.whole {
			above[i] = append(above[i], p.left)
		}
	}
	return above
}

// list finds the words with so many tokens; all shorter ones have been found.
func (l *lister) list(long int) {
	switch long {
	case 0:
		for _, left := range l.empties() {
			l.add(left, "")
		}
	case 1:
		for kind := range l.kinds {
			l.add(kind, coded(kind))
		}
	default:
		for i := len(l.names); i < len(l.parts); i++ {
			if l.parts[i].front >= 0 && long <= l.limits[i] {
				l.join(i, long)
			}
		}
	}
}

// join adds the words with so many tokens of part i that have some of its front and some of its back.
func (l *lister) join(i, long int) {
	p := l.parts[i]
	for ahead := 1; ahead < long; ahead++ {
		for _, front := range l.found[p.front][ahead] {
			if l.full {
				return
			}
			for _, back := range l.found[p.back][long-ahead] {
				l.add(i, front+back)
			}
		}
	}
}

// add adds a word to part i and to all above it.
func (l *lister) add(i int, code string) {
	if l.full || len(code) > l.limits[i] || l.known[i][code] {
		return
	}
	if len(l.known[i]) == api.MaxWords {
		l.full = true
		return
	}
	l.known[i][code] = true
	l.found[i][len(code)] = append(l.found[i][len(code)], code)
	for _, above := range l.above[i] {
		l.add(above, code)
	}
}
