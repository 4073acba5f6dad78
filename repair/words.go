package repair

import (
	"maps"
	"slices"
	"strings"
)

// mostRepaired are how many words can come out.
const mostRepaired = 500

// sets has sets of codes of words. Parts often have the same words, so each set is there once, with a number, and what two of them make together is found once.
type sets struct {
	sets   [][]string // each one rising
	number map[string]int
	joined map[[2]int]int // the sets of a word of the one, and behind it a word of the other
	united map[[2]int]int // the sets of the words of both
	full   bool           // whether a set has too many words: then the whole has, too, as each part is used in it
}

func newSets() *sets {
	return &sets{number: map[string]int{}, joined: map[[2]int]int{}, united: map[[2]int]int{}}
}

// ways find all words.
func (s *sets) ways() ways[int] {
	return ways[int]{
		kind: func(kind, from, to int) int { return s.set(map[string]bool{coded(kind): true}) },
		none: func(from, to int) int { return s.set(map[string]bool{"": true}) },
		join: s.join,
		better: func(old, front, back int) (int, bool) {
			set := s.unite(old, s.join(front, back))
			return set, set != old
		},
	}
}

// set is the number of a set.
func (s *sets) set(words map[string]bool) int {
	list := slices.Sorted(maps.Keys(words))
	code := strings.Join(list, "\xff")
	set, ok := s.number[code]
	if !ok {
		set = len(s.sets)
		s.sets = append(s.sets, list)
		s.number[code] = set
	}
	return set
}

// join is the set of the words of a, with those of b behind them.
func (s *sets) join(a, b int) int {
	return s.made(s.joined, a, b, func(words map[string]bool) {
		for _, front := range s.sets[a] {
			for _, back := range s.sets[b] {
				words[front+back] = true
				if len(words) > mostRepaired {
					return
				}
			}
		}
	})
}

// unite is the set of the words of a and b.
func (s *sets) unite(a, b int) int {
	return s.made(s.united, a, b, func(words map[string]bool) {
		for _, word := range slices.Concat(s.sets[a], s.sets[b]) {
			words[word] = true
		}
	})
}

// made is the set that is made of two. If there is a set with too many words, it does not matter any more, and nothing is done.
func (s *sets) made(known map[[2]int]int, a, b int, words func(words map[string]bool)) int {
	if s.full {
		return 0
	}
	set, ok := known[[2]int{a, b}]
	if ok {
		return set
	}
	list := map[string]bool{}
	words(list)
	if len(list) > mostRepaired {
		s.full = true
		return 0
	}
	set = s.set(list)
	known[[2]int{a, b}] = set
	return set
}
