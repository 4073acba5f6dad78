package lex

import (
	"slices"
)

// state is where all strings lead that have the same set. The first one is that of the empty string alone.
type state struct {
	fits  []int // the patterns that fit these strings, rising
	next  []int // the state behind a byte of each class
	stuck bool  // no string that begins with one of these, and is longer, is fit by a pattern
	from  int   // the state that comes before, on the way of the shortest of these strings, and of several the least one
	class int   // the class of the last byte of this string
}

// explorer finds states.
type explorer struct {
	m       *machine
	sets    []set          // of each state
	numbers map[string]int // the number of a state by the key of its set; the first state is not here
	met     set            // for the set that is looked up
	key     []byte         // for its key
}

// explore finds all states; false if they have more than most sets.
// States are found by the length of their shortest strings, then by these strings.
func (m *machine) explore(most int) bool {
	x := explorer{m: m, numbers: map[string]int{}, met: m.newSet()}
	m.states = []state{{}}
	x.sets = []set{m.newSet()}
	for i := 0; i < len(m.states); i++ {
		open, fits := m.behind(x.sets[i], i == 0)
		next := make([]int, len(m.match))
		for class := range next {
			next[class] = x.follow(i, class, open)
		}
		m.states[i].fits = fits
		m.states[i].next = next
		m.states[i].stuck = open.isEmpty()
		if m.sets() > most {
			return false
		}
	}
	return true
}

// follow is the state behind a state, if a byte of a class is read at the places that are open.
func (x *explorer) follow(from, class int, open set) int {
	x.met.meet(open, x.m.match[class])
	x.key = x.met.key(x.key[:0])
	if to, ok := x.numbers[string(x.key)]; ok {
		return to
	}
	to := len(x.m.states)
	x.numbers[string(x.key)] = to
	x.sets = append(x.sets, slices.Clone(x.met))
	x.m.states = append(x.m.states, state{from: from, class: class})
	return to
}

// sets is how many sets the states have: one each, but for the first state.
func (m *machine) sets() int { return len(m.states) - 1 }

// least is the shortest string, and of several the least one, for which the patterns that fit it are as is wanted.
func (m *machine) least(wanted func(fits []int) bool) (string, bool) {
	at := slices.IndexFunc(m.states, func(x state) bool { return wanted(x.fits) })
	if at < 0 {
		return "", false
	}
	var s []byte
	for ; at != 0; at = m.states[at].from {
		s = append(s, m.lowest[m.states[at].class])
	}
	slices.Reverse(s)
	return string(s), true
}
