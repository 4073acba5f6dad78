package table

import (
	"iter"
	"math/bits"
)

// theEnd is the number of the end of the word among what can come. That of a kind is 1 more than its index; so the numbers rise with the kinds.
const theEnd = 0

// aheads is a set of what can come: a bit for each number, which the bits of an uint64 suffice for.
type aheads uint64

// only is the set of one number.
func only(ahead int) aheads { return 1 << ahead }

func (s aheads) has(ahead int) bool { return s&only(ahead) != 0 }

// all are the numbers in a set, rising.
func (s aheads) all() iter.Seq[int] {
	return func(yield func(ahead int) bool) {
		for rest := s; rest != 0; rest &= rest - 1 {
			if !yield(bits.TrailingZeros64(uint64(rest))) {
				return
			}
		}
	}
}
