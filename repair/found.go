package repair

import (
	"slices"
)

// ways tell what is found of a part, by what is found of those that it is made of. Only what has the least cost is asked for.
type ways[V any] struct {
	kind func(kind, from, to int) V
	none func(from, to int) V // of no tokens: what changes nothing, if it is joined
	join func(front, back V) V
	// better is what is found if old has been found, and front and back can be joined, too; and whether it is something else than old.
	better func(old, front, back V) (V, bool)
}

// finder finds something of each part that the whole is made of with the least cost.
type finder[V any] struct {
	*chart
	ways  ways[V]
	used  [][]int      // for each span the parts
	found [][]entry[V] // for each part by spans
}

// entry is what has been found of a part, if this is known.
type entry[V any] struct {
	known bool
	value V
}

// find finds what the ways tell of the whole.
func find[V any](c *chart, w ways[V]) V {
	f := &finder[V]{c, w, c.used(), make([][]entry[V], c.parts())}
	for part := range f.found {
		f.found[part] = make([]entry[V], len(f.used))
	}
	f.eachSpan(func(from, to int) {
		f.begin(from, to)
		settle(func() bool { return f.spread(from, to) })
	})
	return f.found[f.start][f.span(0, f.long)].value
}

// begin finds what does not depend on other parts of the same span.
func (f *finder[V]) begin(from, to int) {
	span := f.span(from, to)
	for _, part := range f.used[span] {
		p, ok := f.pairOf(part)
		switch {
		case ok:
			for middle := from + 1; middle < to; middle++ {
				f.take(part, p, from, middle, to)
			}
		case part < f.kinds:
			f.found[part][span] = entry[V]{true, f.ways.kind(part, from, to)}
		case f.empty[part] && f.prices.none(from, to) == f.costs[part][span]:
			f.found[part][span] = entry[V]{true, f.ways.none(from, to)}
		}
	}
}

// spread finds more of the parts of a span by others of the same one.
func (f *finder[V]) spread(from, to int) bool {
	span := f.span(from, to)
	nothing := entry[V]{true, f.ways.none(to, to)}
	changed := false
	for _, part := range f.used[span] {
		if p, ok := f.pairOf(part); ok {
			changed = f.take(part, p, from, from, to) || changed
			changed = f.take(part, p, from, to, to) || changed
			continue
		}
		for _, whole := range f.whole[part] {
			if f.costs[whole][span] == f.costs[part][span] {
				changed = f.add(part, span, f.found[whole][span], nothing) || changed
			}
		}
	}
	return changed
}

// take finds more of a part that is a pair, if its front can have the tokens ahead of middle.
func (f *finder[V]) take(part int, p pair, from, middle, to int) bool {
	if f.joined(p, from, middle, to) != f.cost(part, from, to) {
		return false
	}
	return f.add(part, f.span(from, to), f.found[p.front][f.span(from, middle)], f.found[p.back][f.span(middle, to)])
}

// add finds more of a part by what it is made of.
func (f *finder[V]) add(part, span int, front, back entry[V]) bool {
	if !front.known || !back.known {
		return false
	}
	e := &f.found[part][span]
	if !e.known {
		*e = entry[V]{true, f.ways.join(front.value, back.value)}
		return true
	}
	value, changed := f.ways.better(e.value, front.value, back.value)
	e.value = value
	return changed
}

// used are, for each span, the parts that the whole is made of with the least cost.
func (c *chart) used() [][]int {
	u := &user{c, make([][]int, c.span(c.long, c.long)+1), make([][]bool, c.parts())}
	for part := range u.known {
		u.known[part] = make([]bool, len(u.used))
	}
	u.use(c.start, 0, c.long)
	// What a part is made of has its span, or a shorter one.
	for wide := c.long; wide >= 0; wide-- {
		for from := range c.long - wide + 1 {
			u.follow(from, from+wide)
		}
	}
	for _, parts := range u.used {
		slices.Sort(parts)
	}
	return u.used
}

// user looks for the parts that are used.
type user struct {
	*chart
	used  [][]int
	known [][]bool // for each part by spans
}

func (u *user) use(part, from, to int) {
	span := u.span(from, to)
	if !u.known[part][span] {
		u.known[part][span] = true
		u.used[span] = append(u.used[span], part)
	}
}

// follow uses what the parts of a span are made of; the list of these grows meanwhile.
func (u *user) follow(from, to int) {
	span := u.span(from, to)
	for i := 0; i < len(u.used[span]); i++ {
		part := u.used[span][i]
		cost := u.costs[part][span]
		if p, ok := u.pairOf(part); ok {
			for middle := from; middle <= to; middle++ {
				if u.joined(p, from, middle, to) == cost {
					u.use(p.front, from, middle)
					u.use(p.back, middle, to)
				}
			}
			continue
		}
		for _, whole := range u.whole[part] {
			if u.costs[whole][span] == cost {
				u.use(whole, from, to)
			}
		}
	}
}
