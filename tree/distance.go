package tree

import (
	"hedgelayer/api"
)

// Distance is the least number of steps from a tree to another one.
func Distance(a, b api.Tree) (int, api.Errno) {
	if err := checkTrees(a, b); err != api.OK {
		return 0, err
	}
	rows, columns := ranked(a), ranked(b)
	if len(rows) > api.MaxTwo || len(columns) > api.MaxTwo {
		return 0, api.ErrLarge
	}
	p := pair{rows, columns, grid(len(rows), len(columns))}
	for i := range rows {
		for j := range columns {
			p.trees[i][j] = p.between(i, j)
		}
	}
	return p.trees[len(rows)-1][len(columns)-1], api.OK
}

// rankedPart is a part in a list in which each one stands directly behind those within it.
type rankedPart struct {
	mark  mark
	first int // where the parts within this one begin in the list
}

// ranked is the list of all parts of a tree; the last one is the tree itself.
func ranked(t api.Tree) []rankedPart { return addRanked(nil, t) }

func addRanked(list []rankedPart, t api.Tree) []rankedPart {
	first := len(list)
	for _, kid := range t.Kids {
		list = addRanked(list, kid)
	}
	return append(list, rankedPart{markOf(t), first})
}

// pair is two trees, with the distances of their parts, as far as they are known.
type pair struct {
	a, b  []rankedPart
	trees [][]int
}

// between is the distance of the parts i and j; those of all parts up to both of them are known.
// far has the distances of what some parts from the first ones within i and j on make: trees beside one another.
// The last tree of the one of them loses its root, or that of the other one does, or both become one another.
func (p pair) between(i, j int) int {
	a, b := p.a[i], p.b[j]
	far := grid(i-a.first+2, j-b.first+2)
	for m := range far {
		far[m][0] = m
		for n := range far[m] {
			if m == 0 || n == 0 {
				far[m][n] = m + n
				continue
			}
			x, y := a.first+m-1, b.first+n-1
			both := p.trees[x][y] + far[p.a[x].first-a.first][p.b[y].first-b.first]
			if x == i && y == j {
				both = far[m-1][n-1] + marking(a.mark, b.mark)
			}
			far[m][n] = min(far[m-1][n]+1, far[m][n-1]+1, both)
		}
	}
	return far[i-a.first+1][j-b.first+1]
}

// marking is how many steps make a mark another one.
func marking(a, b mark) int {
	if a == b {
		return 0
	}
	return 1
}

// grid is a table of zeros.
func grid(rows, columns int) [][]int {
	table := make([][]int, rows)
	for i := range table {
		table[i] = make([]int, columns)
	}
	return table
}
