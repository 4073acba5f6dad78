package lex

// set is a set of places, each of which is a bit. Sets of a machine have the same length.
type set []uint64

const bitsOfWord = 64

func (m *machine) newSet() set {
	return make(set, (m.places+bitsOfWord-1)/bitsOfWord)
}

func (s set) has(place int) bool {
	return s[place/bitsOfWord]>>(place%bitsOfWord)&1 == 1
}

func (s set) add(place int) {
	s[place/bitsOfWord] |= 1 << (place % bitsOfWord)
}

func (s set) isEmpty() bool {
	for _, word := range s {
		if word != 0 {
			return false
		}
	}
	return true
}

// meet makes s what is in both of a and b.
func (s set) meet(a, b set) {
	for i := range s {
		s[i] = a[i] & b[i]
	}
}

// key puts the bytes of a set behind those of a list: equal sets alone have equal keys.
func (s set) key(list []byte) []byte {
	for _, word := range s {
		list = append(list, byte(word), byte(word>>8), byte(word>>16), byte(word>>24),
			byte(word>>32), byte(word>>40), byte(word>>48), byte(word>>56))
	}
	return list
}
