package tree_test

import (
	"fmt"
	"math/rand/v2"
	"slices"
	"testing"

	"hedgelayer/api"
	"hedgelayer/tree"
)

// plant is a part whose mark is a letter: a and b are leaves, A and B nodes, as they are in the end.
type plant struct {
	mark byte
	kids []plant
}

const marks = "abAB"

func name(list []plant) string {
	s := ""
	for _, p := range list {
		s += string([]byte{p.mark}) + "(" + name(p.kids) + ")"
	}
	return s
}

func count(list []plant) int {
	n := len(list)
	for _, p := range list {
		n += count(p.kids)
	}
	return n
}

func swapped(list []plant, from, to int, by ...plant) []plant {
	return slices.Concat(list[:from], by, list[to:])
}

// steps are all that trees beside one another can become in one step, as P4.5 says.
func steps(list []plant) [][]plant {
	var all [][]plant
	for i := range len(list) + 1 {
		for j := i; j <= len(list); j++ {
			for _, m := range []byte(marks) {
				all = append(all, swapped(list, i, j, plant{m, list[i:j]}))
			}
		}
	}
	for i, p := range list {
		all = append(all, swapped(list, i, i+1, p.kids...))
		for _, m := range []byte(marks) {
			all = append(all, swapped(list, i, i+1, plant{m, p.kids}))
		}
		for _, kids := range steps(p.kids) {
			all = append(all, swapped(list, i, i+1, plant{p.mark, kids}))
		}
	}
	return all
}

// world has all trees beside one another with few parts, and what one step makes of each.
type world struct {
	lists  [][]plant
	number map[string]int
	next   [][]int
}

func explored(most int) world {
	w := world{lists: [][]plant{nil}, number: map[string]int{"": 0}}
	for i := 0; i < len(w.lists); i++ {
		var next []int
		for _, list := range steps(w.lists[i]) {
			if count(list) > most {
				continue
			}
			s := name(list)
			if _, ok := w.number[s]; !ok {
				w.number[s] = len(w.lists)
				w.lists = append(w.lists, list)
			}
			next = append(next, w.number[s])
		}
		w.next = append(w.next, next)
	}
	return w
}

// far is how many steps lead from one of the lists to each other one.
func (w world) far(from int) []int {
	far := make([]int, len(w.lists))
	for i := range far {
		far[i] = -1
	}
	far[from] = 0
	for queue := []int{from}; len(queue) > 0; queue = queue[1:] {
		for _, to := range w.next[queue[0]] {
			if far[to] < 0 {
				far[to] = far[queue[0]] + 1
				queue = append(queue, to)
			}
		}
	}
	return far
}

// planted is the tree that a plant is; false if it is none by CheckTree.
func planted(p plant) (api.Tree, bool) {
	if p.mark >= 'a' {
		return leaf("a", "", string([]byte{p.mark})), len(p.kids) == 0
	}
	x := node(int(p.mark - 'A'))
	for _, kid := range p.kids {
		y, ok := planted(kid)
		if !ok {
			return x, false
		}
		x.Kids = append(x.Kids, y)
	}
	return x, true
}

// P4.5: the least number of steps is found by taking all steps.
func TestDistanceBySteps(t *testing.T) {
	w := explored(4)
	is(t, len(w.lists), 1+4+2*16+5*64+14*256)
	trees := map[int]api.Tree{}
	for i, list := range w.lists {
		if len(list) == 1 {
			if x, ok := planted(list[0]); ok {
				trees[i] = x
			}
		}
	}
	for i := range w.lists {
		x, ok := trees[i]
		if !ok || i%9 > 0 && count(w.lists[i]) > 2 {
			continue
		}
		far := w.far(i)
		for j, y := range trees {
			if n, err := tree.Distance(x, y); n != far[j] || err != api.OK {
				t.Fatalf("%s to %s: got %d and %v, want %d", name(w.lists[i]), name(w.lists[j]), n, err, far[j])
			}
		}
	}
}

// plainDistance is the distance of trees beside one another, by what becomes of the first one.
func plainDistance(known map[string]int, a, b []api.Tree) int {
	if len(a) == 0 || len(b) == 0 {
		n := 0
		for _, x := range slices.Concat(a, b) {
			n += len(plainParts(nil, x))
		}
		return n
	}
	key := fmt.Sprint(a, "/", b)
	if n, ok := known[key]; ok {
		return n
	}
	n := 0
	if a[0].Rule != b[0].Rule || a[0].Token != b[0].Token {
		n = 1
	}
	n += plainDistance(known, a[0].Kids, b[0].Kids) + plainDistance(known, a[1:], b[1:])
	n = min(n, 1+plainDistance(known, slices.Concat(a[0].Kids, a[1:]), b))
	n = min(n, 1+plainDistance(known, a, slices.Concat(b[0].Kids, b[1:])))
	known[key] = n
	return n
}

// P4.5: larger trees.
func TestRandomDistance(t *testing.T) {
	known := map[string]int{}
	each(400, 9, func(r *rand.Rand, x, y api.Tree) {
		n, err := tree.Distance(x, y)
		is(t, []any{n, err}, []any{plainDistance(known, []api.Tree{x}, []api.Tree{y}), api.OK})
	})
}

// P4.5: what follows: the distance is 0 for equal trees alone, the same in both directions, within its bounds, and keeps the triangle inequality.
func TestDistanceFollows(t *testing.T) {
	each(400, 40, func(r *rand.Rand, x, y api.Tree) {
		z := altered(r, y)
		xy, _ := tree.Distance(x, y)
		yx, _ := tree.Distance(y, x)
		yz, _ := tree.Distance(y, z)
		xz, _ := tree.Distance(x, z)
		a, b := len(plainParts(nil, x)), len(plainParts(nil, y))
		if xy != yx || xz > xy+yz || xy > a+b || xy < a-b || xy < b-a || (xy == 0) != (dump(t, x) == dump(t, y)) {
			t.Errorf("%v, %v, %v: %d %d %d %d", x, y, z, xy, yx, yz, xz)
		}
	})
}
