package lex

import (
	"hedgelayer/api"
)

// machine reads strings for several patterns at once.
type machine struct {
	nodes  []node
	roots  []int // the node of each pattern
	places int
	class  [256]int // of each byte: bytes of a class are read at the same places
	lowest []byte   // the lowest byte of each class; classes rise with it
	match  []set    // the places at which a byte of each class is read
	done   []bool   // for behind, of each node: what has been read can end with what it fits
	begun  []bool   // for behind, of each node: it can begin now
	states []state  // once they are explored
}

// node is a pattern of the machine. Its Args come behind it, each one with all that is in it.
type node struct {
	op    int
	end   int  // the node behind all that are in this one
	empty bool // it fits the empty string
	place int  // the number of a PatBytes among all
}

// newMachine makes a machine of patterns that have been checked. It has no states yet.
func newMachine(pats []api.Pat) *machine {
	m := &machine{}
	var bytes []api.Pat
	for _, p := range pats {
		m.roots = append(m.roots, len(m.nodes))
		bytes = m.add(p, bytes)
	}
	m.places = len(bytes)
	m.done = make([]bool, len(m.nodes))
	m.begun = make([]bool, len(m.nodes))
	m.classify(bytes)
	return m
}

// add puts a pattern behind the nodes, and its PatBytes behind those of the patterns before.
func (m *machine) add(p api.Pat, bytes []api.Pat) []api.Pat {
	at := len(m.nodes)
	m.nodes = append(m.nodes, node{op: p.Op, empty: fitsEmpty(p), place: len(bytes)})
	if p.Op == api.PatBytes {
		bytes = append(bytes, p)
	}
	for _, arg := range p.Args {
		bytes = m.add(arg, bytes)
	}
	m.nodes[at].end = len(m.nodes)
	return bytes
}

// classify finds the classes of bytes: a class begins where a PatBytes begins, and behind its end.
func (m *machine) classify(bytes []api.Pat) {
	var begins [257]bool
	begins[0] = true
	for _, p := range bytes {
		begins[p.Low] = true
		begins[p.High+1] = true
	}
	for b := range m.class {
		if begins[b] {
			m.lowest = append(m.lowest, byte(b))
			m.match = append(m.match, m.newSet())
		}
		m.class[b] = len(m.lowest) - 1
	}
	for place, p := range bytes {
		for class := m.class[p.Low]; class <= m.class[p.High]; class++ {
			m.match[class].add(place)
		}
	}
}

// behind returns the places that can read the byte behind a string, and the patterns that fit this string, rising.
// The places alive are those of the string; at the start it is empty.
func (m *machine) behind(alive set, start bool) (set, []int) {
	m.findDone(alive)
	for _, root := range m.roots {
		m.begun[root] = start
	}
	open := m.newSet()
	for i := range m.nodes {
		m.begin(i, open)
	}
	var fits []int
	for i, root := range m.roots {
		if m.done[root] || start && m.nodes[root].empty {
			fits = append(fits, i)
		}
	}
	return open, fits
}

// findDone goes backwards, so that what is in a node comes before it.
func (m *machine) findDone(alive set) {
	for i := len(m.nodes) - 1; i >= 0; i-- {
		n := m.nodes[i]
		done := n.op == api.PatBytes && alive.has(n.place)
		for arg := i + 1; arg < n.end; arg = m.nodes[arg].end {
			passed := n.op != api.PatThen || m.nodes[arg].empty
			done = m.done[arg] || done && passed
		}
		m.done[i] = done
	}
}

// begin tells the Args of a node whether they can begin, or puts its place into open if it can begin itself.
func (m *machine) begin(i int, open set) {
	n, begun := m.nodes[i], m.begun[i]
	switch n.op {
	case api.PatBytes:
		if begun {
			open.add(n.place)
		}
	case api.PatStar:
		m.begun[i+1] = begun || m.done[i+1]
	case api.PatOr:
		for arg := i + 1; arg < n.end; arg = m.nodes[arg].end {
			m.begun[arg] = begun
		}
	case api.PatThen:
		for arg := i + 1; arg < n.end; arg = m.nodes[arg].end {
			m.begun[arg] = begun
			begun = m.done[arg] || begun && m.nodes[arg].empty
		}
	}
}
