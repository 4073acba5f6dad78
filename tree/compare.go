package tree

import (
	"slices"

	"hedgelayer/api"
)

// Alike reports whether trees are equal but for Leads.
func Alike(a, b api.Tree) (bool, api.Errno) {
	if err := checkTrees(a, b); err != api.OK {
		return false, err
	}
	return alike(a, b), api.OK
}

func alike(a, b api.Tree) bool {
	a.Token.Lead, b.Token.Lead = "", ""
	return markOf(a) == markOf(b) && slices.EqualFunc(a.Kids, b.Kids, alike)
}

// Diff are the least parts in which trees differ.
func Diff(a, b api.Tree) ([][]int, api.Errno) {
	if err := checkTrees(a, b); err != api.OK {
		return nil, err
	}
	return addDiff(nil, nil, a, b), api.OK
}

// addDiff adds to paths those of the least parts in which two parts at the same path differ.
func addDiff(paths [][]int, path []int, a, b api.Tree) [][]int {
	if markOf(a) != markOf(b) || len(a.Kids) != len(b.Kids) {
		return append(paths, slices.Clone(path))
	}
	for i, kid := range a.Kids {
		paths = addDiff(paths, append(path, i), kid, b.Kids[i])
	}
	return paths
}

// Distinct is how many different trees the parts of a tree are.
func Distinct(t api.Tree) (int, api.Errno) {
	if err := CheckTree(t); err != api.OK {
		return 0, err
	}
	return len(newNumbers().ofParts(t)), api.OK
}

// Shared is how many different trees are parts of both.
func Shared(a, b api.Tree) (int, api.Errno) {
	if err := checkTrees(a, b); err != api.OK {
		return 0, err
	}
	n := newNumbers()
	first, second := n.ofParts(a), n.ofParts(b)
	count := 0
	for number := range first {
		if second[number] {
			count++
		}
	}
	return count, api.OK
}

// mark is a part without its Kids.
type mark struct {
	rule  int
	token api.Token
}

func markOf(t api.Tree) mark { return mark{t.Rule, t.Token} }

// growth is a tree that gets one Kid more, behind those that it has; both are told by their numbers.
type growth struct{ tree, kid int }

// numbers gives each tree a number: the same one to equal trees, and different ones to others.
// Each tree is a mark that has grown Kid by Kid, so that short keys do for trees of any size.
type numbers struct {
	marks map[mark]int
	grown map[growth]int
}

func newNumbers() numbers {
	return numbers{map[mark]int{}, map[growth]int{}}
}

// ofParts are the numbers of all parts of a tree.
func (n numbers) ofParts(t api.Tree) map[int]bool {
	met := map[int]bool{}
	n.add(met, t)
	return met
}

// add puts the numbers of all parts of a tree into met, and returns that of the tree itself.
func (n numbers) add(met map[int]bool, t api.Tree) int {
	number := numberOf(n.marks, markOf(t), n.next())
	for _, kid := range t.Kids {
		grown := growth{number, n.add(met, kid)}
		number = numberOf(n.grown, grown, n.next())
	}
	met[number] = true
	return number
}

// next is the least number that no tree has.
func (n numbers) next() int { return len(n.marks) + len(n.grown) }

// numberOf is the number that a key has; one that has none gets the next one.
func numberOf[K comparable](known map[K]int, key K, next int) int {
	number, ok := known[key]
	if !ok {
		number = next
		known[key] = number
	}
	return number
}
