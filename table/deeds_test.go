package table_test

import (
	"fmt"
	"strings"
	"testing"

	"hedgelayer/api"
	"hedgelayer/table"
)

// told is a list of conflicts, each one as its state, what comes ($ for the end), ! if that could be shifted, the rules, and the word.
func told(list []api.Conflict) string {
	var out []string
	for _, c := range list {
		ahead := c.Ahead
		if ahead == "" {
			ahead = "$"
		}
		if c.Shift {
			ahead += "!"
		}
		out = append(out, fmt.Sprint(c.State, " ", ahead, " ", c.Rules, " ", strings.Join(c.Word, " ")))
	}
	return strings.Join(out, "; ")
}

// row is a state of a table: moves, and reduces ($ for the end).
func row(s api.State) string {
	var out []string
	for _, m := range s.Moves {
		out = append(out, fmt.Sprint(m.Symbol, ":", m.To))
	}
	for _, r := range s.Reduces {
		ahead := r.Ahead
		if ahead == "" {
			ahead = "$"
		}
		out = append(out, fmt.Sprint(ahead, "=", r.Rule))
	}
	return strings.Join(out, " ")
}

func rows(list []api.State) []string {
	var out []string
	for _, s := range list {
		out = append(out, row(s))
	}
	return out
}

// checkPlaces compares the conflicts and the places where levels have decided; without conflicts also the table's rows, if some are wanted.
func checkPlaces(t *testing.T, g api.Grammar, kind int, conflicts, resolved string, want []string) {
	t.Helper()
	c, err := table.Conflicts(g, kind)
	is(t, []any{told(c), err}, []any{conflicts, api.OK})
	r, err := table.Resolved(g, kind)
	is(t, []any{told(r), err}, []any{resolved, api.OK})
	l, err := table.Make(g, kind)
	d, errOfDefaults := table.Defaults(g, kind)
	if conflicts != "" {
		is(t, []any{l, err, d, errOfDefaults}, []any{[]api.State{}, api.ErrConflict, []int{}, api.ErrConflict})
		return
	}
	is(t, []any{err, errOfDefaults}, []any{api.OK, api.OK})
	if want != nil {
		is(t, strings.Join(rows(l), "\n"), strings.Join(want, "\n"))
	}
}

// P3.3: a table without conflicts.
func TestMake(t *testing.T) {
	g := read(t, pairs)
	checkPlaces(t, g, api.TableFull, "", "", []string{
		"a:1 b:2 c:3 s:4",
		"a:1 b:2 c:5",
		"a=2 b=2",
		"a:6 b:7 c:8",
		"$=-1",
		"a=1 b=1",
		"a:6 b:7 c:9",
		"$=2",
		"$=0",
		"$=1",
	})
	checkPlaces(t, g, api.TableMerged, "", "", []string{
		"a:1 b:2 c:3 s:4",
		"a:1 b:2 c:5",
		"$=2 a=2 b=2",
		"a:1 b:2 c:6",
		"$=-1",
		"$=1 a=1 b=1",
		"$=0",
	})
	d, err := table.Defaults(g, api.TableFull)
	is(t, []any{d, err}, []any{[]int{-2, -2, 2, -2, -1, 1, -2, 2, 0, 1}, api.OK})
	d, err = table.Defaults(g, api.TableMerged)
	is(t, []any{d, err}, []any{[]int{-2, -2, 2, -2, -1, 1, 0}, api.OK})
}

// sums are rules of sums and products with levels.
func sums(t *testing.T, plus, times int) api.Grammar {
	g := read(t, "tokens n p t\nstart e\ne = e p e\ne = e t e\ne = n\n")
	g.Rules[0].Level, g.Rules[1].Level = plus, times
	return g
}

// P3.3, 2: the rule is reduced if its level is at least as great as that of the kind.
func TestShiftOrReduce(t *testing.T) {
	for _, kind := range []int{api.TableFull, api.TableMerged} {
		head := []string{"e:1 n:2", "p:3 t:4 $=-1", "$=2 p=2 t=2", "e:5 n:2", "e:6 n:2"}
		checkPlaces(t, sums(t, 1, 2), kind, "", "5 p! [0] n p n; 5 t! [0] n p n; 6 p! [1] n t n; 6 t! [1] n t n",
			append(head, "t:4 $=0 p=0", "$=1 p=1 t=1"))
		checkPlaces(t, sums(t, 99, 1), kind, "", "5 p! [0] n p n; 5 t! [0] n p n; 6 p! [1] n t n; 6 t! [1] n t n",
			append(head, "$=0 p=0 t=0", "p:3 $=1 t=1"))
		checkPlaces(t, sums(t, 1, 1), kind, "", "5 p! [0] n p n; 5 t! [0] n p n; 6 p! [1] n t n; 6 t! [1] n t n",
			append(head, "$=0 p=0 t=0", "$=1 p=1 t=1"))
		checkPlaces(t, sums(t, 0, 0), kind, "5 p! [0] n p n; 5 t! [0] n p n; 6 p! [1] n t n; 6 t! [1] n t n", "", nil)
		checkPlaces(t, sums(t, 1, 0), kind, "5 t! [0] n p n; 6 p! [1] n t n; 6 t! [1] n t n", "5 p! [0] n p n", nil)
		checkPlaces(t, sums(t, 0, 7), kind, "5 p! [0] n p n; 5 t! [0] n p n; 6 p! [1] n t n", "6 t! [1] n t n", nil)
	}
}

// P3.3, 2: the level of a kind is the greatest one of the rules of items with this kind behind the dot, in this state.
func TestLevelOfKind(t *testing.T) {
	text := func(level string) string {
		return "tokens e i x\nstart s\ns = i s / 2\ns = i s e s" + level + "\ns = x\n"
	}
	g := read(t, text(" / 3"))
	checkPlaces(t, g, api.TableMerged, "", "4 e! [0] i x", []string{"i:1 s:2 x:3", "i:1 s:4 x:3", "$=-1", "$=2 e=2", "e:5 $=0", "i:1 s:6 x:3", "$=1 e=1"})
	g = read(t, text(" / 1"))
	checkPlaces(t, g, api.TableMerged, "", "4 e! [0] i x", []string{"i:1 s:2 x:3", "i:1 s:4 x:3", "$=-1", "$=2 e=2", "$=0 e=0", "i:1 s:6 x:3", "$=1 e=1"})
	g = read(t, text(""))
	checkPlaces(t, g, api.TableMerged, "4 e! [0] i x", "", nil)
	// Behind a two rules have b behind the dot, with the levels 1 and 3; the rule that could be reduced has 2.
	two := "tokens a b c\nstart s\ns = t b\ns = a b c / %d\ns = a b b / %d\nt = a / 2\n"
	checkPlaces(t, read(t, fmt.Sprintf(two, 1, 3)), api.TableFull, "", "1 b! [3] a", []string{"a:1 s:2 t:3", "b:4", "$=-1", "b:5", "b:6 c:7", "$=0", "$=2", "$=1"})
	checkPlaces(t, read(t, fmt.Sprintf(two, 3, 1)), api.TableFull, "", "1 b! [3] a", []string{"a:1 s:2 t:3", "b:4", "$=-1", "b:5", "b:6 c:7", "$=0", "$=2", "$=1"})
	checkPlaces(t, read(t, fmt.Sprintf(two, 1, 2)), api.TableFull, "", "1 b! [3] a", []string{"a:1 s:2 t:3", "b=3", "$=-1", "b:5", "b:6 c:7", "$=0", "$=2", "$=1"})
	zero := strings.Replace(two, " / %d\ns = a b b / %d", "\ns = a b b / %d", 1)
	checkPlaces(t, read(t, fmt.Sprintf(zero, 1)), api.TableFull, "", "1 b! [3] a", []string{"a:1 s:2 t:3", "b=3", "$=-1", "b:5", "b:6 c:7", "$=0", "$=2", "$=1"})
}

// several are rules of which x, y and z could all be reduced behind a.
func several(t *testing.T, x, y, z int) api.Grammar {
	g := read(t, "tokens a b\nstart s\ns = x\ns = y\ns = z\nx = a\ny = a\nz = a\n")
	g.Rules[3].Level, g.Rules[4].Level, g.Rules[5].Level = x, y, z
	return g
}

// P3.3, 1: of several rules the one with the greatest level is reduced, if it is above 0 and no other one has it.
func TestSeveralRules(t *testing.T) {
	all := "1 $ [3 4 5] a"
	tests := []struct {
		x, y, z   int
		rule      int
		conflicts string
	}{
		{0, 0, 0, 0, all}, {1, 1, 0, 0, all}, {1, 1, 1, 0, all}, {1, 2, 2, 0, all}, {2, 2, 1, 0, all}, {2, 1, 2, 0, all},
		{1, 0, 0, 3, ""}, {0, 1, 0, 4, ""}, {0, 0, 1, 5, ""}, {1, 1, 2, 5, ""}, {3, 2, 1, 3, ""}, {1, 3, 1, 4, ""},
	}
	for _, x := range tests {
		g := several(t, x.x, x.y, x.z)
		if x.conflicts != "" {
			checkPlaces(t, g, api.TableFull, x.conflicts, "", nil)
			continue
		}
		l, err := table.Make(g, api.TableFull)
		is(t, []any{x, err, row(l[1])}, []any{x, api.OK, fmt.Sprint("$=", x.rule)})
		checkPlaces(t, g, api.TableFull, "", all, nil)
	}
}

// P3.3: both decide, 1 first.
func TestBoth(t *testing.T) {
	text := func(x, y, kind int) api.Grammar {
		g := read(t, "tokens a b\nstart s\ns = x b\ns = y b\ns = a b\nx = a\ny = a\n")
		g.Rules[3].Level, g.Rules[4].Level, g.Rules[2].Level = x, y, kind
		return g
	}
	both := "1 b! [3 4] a"
	checkPlaces(t, text(1, 2, 3), api.TableFull, "", both, []string{"a:1 s:2 x:3 y:4", "b:5", "$=-1", "b:6", "b:7", "$=2", "$=0", "$=1"})
	checkPlaces(t, text(1, 2, 2), api.TableFull, "", both, []string{"a:1 s:2 x:3 y:4", "b=4", "$=-1", "b:6", "b:7", "$=2", "$=0", "$=1"})
	checkPlaces(t, text(3, 2, 2), api.TableFull, "", both, []string{"a:1 s:2 x:3 y:4", "b=3", "$=-1", "b:6", "b:7", "$=2", "$=0", "$=1"})
	// A conflict of 1 names all rules, and is none of 2; one of 2 names the rule that is left.
	checkPlaces(t, text(2, 2, 3), api.TableFull, both, "", nil)
	checkPlaces(t, text(0, 0, 0), api.TableFull, both, "", nil)
	checkPlaces(t, text(0, 0, 3), api.TableFull, both, "", nil)
	checkPlaces(t, text(0, 1, 0), api.TableFull, "1 b! [4] a", "", nil)
	checkPlaces(t, text(2, 1, 0), api.TableFull, "1 b! [3] a", "", nil)
}

// P3.3: the rule -1 has the level 0.
func TestAccepting(t *testing.T) {
	loop := func(level int) api.Grammar {
		g := read(t, "tokens a\nstart s\ns = s\ns = a\n")
		g.Rules[0].Level = level
		return g
	}
	checkPlaces(t, loop(0), api.TableFull, "2 $ [-1 0] a", "", nil)
	checkPlaces(t, loop(1), api.TableFull, "", "2 $ [-1 0] a", []string{"a:1 s:2", "$=1", "$=0"})
	checkPlaces(t, read(t, "tokens\nstart s\ns =\n"), api.TableFull, "", "", []string{"s:1 $=0", "$=-1"})
}

// P3.3: a kind that is not shifted has no move; its state stays, with its number.
func TestMovesThatGo(t *testing.T) {
	g := read(t, "tokens a b\nstart s\ns = a b / 1\ns = x b\nx = a / 1\n")
	checkPlaces(t, g, api.TableFull, "", "1 b! [2] a", []string{"a:1 s:2 x:3", "b=2", "$=-1", "b:5", "$=0", "$=1"})
	l, err := table.Access(g, api.TableFull, 4)
	is(t, []any{l, err}, []any{split("a b"), api.OK})
}

// P3.3: conflicts come by state, then by what comes, the end first.
func TestOrderOfConflicts(t *testing.T) {
	g := read(t, "tokens a b c\nstart s\ns = x t\ns = y t\ns = c s\nt = a\nt = b\nt =\nx = c\ny = c\n")
	c, err := table.Conflicts(g, api.TableFull)
	is(t, []any{told(c), err}, []any{"1 $ [6 7] c; 1 a [6 7] c; 1 b [6 7] c", api.OK})
	g = read(t, "tokens p q\nstart s\ns = s p s\ns = s s\ns = q\n")
	c, err = table.Conflicts(g, api.TableMerged)
	is(t, []any{told(c), err}, []any{"4 p! [1] q q; 4 q! [1] q q; 5 p! [0] q p q; 5 q! [0] q p q", api.OK})
}

// merging has conflicts that come by merging alone.
const merging = "tokens a b c d x\nstart s\ns = a e c\ns = a f d\ns = b f c\ns = b e d\ne = x%s\nf = x\n"

// P3.2, P3.3: what is merged can have conflicts that the full table has not.
func TestConflictsOfMerging(t *testing.T) {
	g := read(t, fmt.Sprintf(merging, ""))
	checkPlaces(t, g, api.TableFull, "", "", nil)
	checkPlaces(t, g, api.TableMerged, "6 c [4 5] a x; 6 d [4 5] a x", "", nil)
	g = read(t, fmt.Sprintf(merging, " / 1"))
	checkPlaces(t, g, api.TableFull, "", "", nil)
	checkPlaces(t, g, api.TableMerged, "", "6 c [4 5] a x; 6 d [4 5] a x", nil)
}

// P3.3: in the word Lefts have become the least of their shortest words.
func TestWords(t *testing.T) {
	g := read(t, "tokens a b n p z\nstart s\ns = t u e\nt = b\nt = a b\nt = z\nt = a\nu =\nu = z\ne = e p e\ne = n n\n")
	c, err := table.Conflicts(g, api.TableFull)
	is(t, err, api.OK)
	is(t, len(c) > 0, true)
	last := c[len(c)-1]
	l, _ := table.Access(g, api.TableFull, last.State)
	is(t, []any{l, last.Word, last.Ahead}, []any{split("t u e p e"), split("a n n p n n"), "p"})
}

// P3.3: of several rules that are reduced for as many kinds the least one is told, also if it comes later.
func TestDefaults(t *testing.T) {
	g := read(t, "tokens a b c d\nstart s\ns = y a\ns = x b\ns = x c\ns = y d\nx = a\ny = a\n")
	d, err := table.Defaults(g, api.TableFull)
	is(t, []any{d[:2], err}, []any{[]int{-2, 4}, api.OK})
	g = read(t, "tokens a b c d\nstart s\ns = y a\ns = x b\ns = x c\ns = y d\ns = y\nx = a\ny = a\n")
	d, err = table.Defaults(g, api.TableFull)
	is(t, []any{d[:2], err}, []any{[]int{-2, 6}, api.OK})
	// The acceptance is a rule like the others, and less than they.
	g = read(t, "tokens a b\nstart s\ns = t a\ns = b\nt = s\n")
	d, err = table.Defaults(g, api.TableFull)
	n, _ := table.Reach(g, api.TableFull, split("s"))
	is(t, []any{d[n], err}, []any{-1, api.OK})
	g = read(t, "tokens a b\nstart s\ns = t a\ns = t b\ns = b\nt = s\n")
	d, err = table.Defaults(g, api.TableFull)
	n, _ = table.Reach(g, api.TableFull, split("s"))
	is(t, []any{d[n], err}, []any{3, api.OK})
	// Shifts do not count, nor does what levels took away.
	g = read(t, "tokens a b\nstart s\ns = a b / 1\ns = x b\nx = a / 1\n")
	d, err = table.Defaults(g, api.TableFull)
	is(t, []any{d, err}, []any{[]int{-2, 2, -1, -2, 0, 1}, api.OK})
}
