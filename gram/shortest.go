package gram

import (
	"strings"

	"hedgelayer/api"
)

// Lengths can be greater than any int, so those above MaxTokens are all told as tooLong.
const (
	tooLong = api.MaxTokens + 1
	noWord  = tooLong + 1
)

// Shortest is the shortest word of a symbol.
func Shortest(g api.Grammar, symbol string) ([]string, api.Errno) {
	n, err := numbered(g)
	if err != api.OK {
		return nil, err
	}
	asked, ok := n.symbol(symbol)
	if !ok {
		return nil, api.ErrNone
	}
	least := n.lengths()
	switch least[asked] {
	case noWord:
		return nil, api.ErrState
	case tooLong:
		return nil, api.ErrFull
	}
	return n.decoded(n.shortest(least)[asked]), api.OK
}

// lengths are, for each symbol, the lengths of its shortest word (0: it is nullable, noWord: it is barren).
func (n grammar) lengths() []int {
	least := make([]int, len(n.names))
	for symbol := range least {
		least[symbol] = noWord
		if symbol < n.kinds {
			least[symbol] = 1
		}
	}
	settle(func() bool {
		changed := false
		for _, r := range n.rules {
			if long := total(least, r.right); long < least[r.left] {
				least[r.left] = long
				changed = true
			}
		}
		return changed
	})
	return least
}

// total is the length of the shortest word of a list of symbols.
func total(least, list []int) int {
	long := 0
	for _, symbol := range list {
		long = sum(long, least[symbol])
	}
	return long
}

func sum(a, b int) int {
	if a == noWord || b == noWord {
		return noWord
	}
	return min(a+b, tooLong)
}

// shortest are, for each symbol, the least one of its shortest words, as code (see coded); for symbols without one, or with too long ones, there is none.
// All words of one symbol that are compared have the same length, so the least word of a list is made of the least ones of its symbols.
func (n grammar) shortest(least []int) map[int]string {
	words := map[int]string{}
	for kind := range n.kinds {
		words[kind] = coded(kind)
	}
	settle(func() bool {
		changed := false
		for _, r := range n.rules {
			if least[r.left] > api.MaxTokens || total(least, r.right) != least[r.left] {
				continue
			}
			word, ok := joined(words, r.right)
			best, known := words[r.left]
			if ok && (!known || word < best) {
				words[r.left] = word
				changed = true
			}
		}
		return changed
	})
	return words
}

// joined is the words of a list of symbols one behind the other; false if one of them has none.
func joined(words map[int]string, list []int) (string, bool) {
	var b strings.Builder
	for _, symbol := range list {
		word, ok := words[symbol]
		if !ok {
			return "", false
		}
		b.WriteString(word)
	}
	return b.String(), true
}

// coded is the code of the word of one kind. The code of a word has a byte for each kind, its number:
// so codes of words with as many tokens are ordered as the words, and can be keys of maps.
func coded(kind int) string {
	return string([]byte{byte(kind)})
}

// decoded is the word with a code.
func (n grammar) decoded(code string) []string {
	word := make([]string, len(code))
	for i := range len(code) {
		word[i] = n.names[code[i]]
	}
	return word
}
