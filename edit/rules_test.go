package edit_test

import (
	"fmt"
	"math"
	"reflect"
	"strings"
	"sync"
	"testing"

	"hedgelayer/api"
	"hedgelayer/edit"
)

// These tests are about the rules for all chapters, Z1 to Z7.

// given are the arguments of a call.
type given struct {
	n, at  int
	a, b   []api.Edit
	l      [][]api.Edit
	s, t   string
	behind bool
}

// call is a function, with what it returns for some arguments.
type call struct {
	name string
	run  func(x given) []any
}

func results(x ...any) []any { return x }

func calls() []call {
	return []call{
		{"Check", func(x given) []any { return results(edit.Check(x.n, x.a)) }},
		{"Apply", func(x given) []any { return results(edit.Apply(x.s, x.a)) }},
		{"Length", func(x given) []any { return results(edit.Length(x.n, x.a)) }},
		{"Inverse", func(x given) []any { return results(edit.Inverse(x.s, x.a)) }},
		{"Then", func(x given) []any { return results(edit.Then(x.n, x.a, x.b)) }},
		{"Fold", func(x given) []any { return results(edit.Fold(x.n, x.l)) }},
		{"Past", func(x given) []any { return results(edit.Past(x.n, x.a, x.b)) }},
		{"Both", func(x given) []any { return results(edit.Both(x.n, x.a, x.b)) }},
		{"Clash", func(x given) []any { return results(edit.Clash(x.n, x.a, x.b)) }},
		{"Moved", func(x given) []any { return results(edit.Moved(x.n, x.a, x.at, x.behind)) }},
		{"Origin", func(x given) []any { return results(edit.Origin(x.n, x.a)) }},
		{"Squeezed", func(x given) []any { return results(edit.Squeezed(x.s, x.a)) }},
		{"Diff", func(x given) []any { return results(edit.Diff(x.s, x.t)) }},
		{"Hull", func(x given) []any { return results(edit.Hull(x.s, x.a)) }},
		{"Text", func(x given) []any { return results(edit.Text(x.a)) }},
		{"Read", func(x given) []any { return results(edit.Read(x.t)) }},
	}
}

// odd are arguments most of which are wrong in some way, or large.
func odd() []given {
	changes := [][]api.Edit{
		nil, edits("1,1,x"), edits("0,0,"), edits("-1,1,x"), edits("1,1, 2,1,"), make([]api.Edit, 200_000), spread(api.MaxEdits, 0, "x"), spread(api.MaxEdits, 1, "\xff\""),
		{{At: math.MaxInt, Old: math.MaxInt}}, {{At: math.MinInt, Old: math.MinInt}}, {{At: 1, Old: math.MaxInt}}, {{New: letters(200_000)}}, {{New: letters(api.MaxText)}}, {{Old: api.MaxText}},
	}
	ints := []int{3, 0, -1, 4_000, math.MinInt, math.MaxInt, api.MaxText, api.MaxText + 1}
	strs := []string{"abc", "", "2 1 \"x\"\n", "\n", letters(api.MaxDiff), letters(4_000), letters(api.MaxText), letters(200_000), strings.Repeat("\n", 20_000), strings.Repeat("0 0 \"\"\n", 2_001), "\xff\x00", "0 -1 \"\"\n"}
	var list []given
	for i := range len(changes) * 24 {
		a, b := changes[i%len(changes)], changes[i*5%len(changes)]
		list = append(list, given{ints[i%8], ints[i*3%8], a, b, [][]api.Edit{a, b, nil, a}, strs[i%12], strs[i*7%12], i%2 == 0})
	}
	list[0].l = make([][]api.Edit, 200_000)
	return list
}

// Z1, Z3: every call returns, and with an error all other results are zero values.
func TestZeroWithErrors(t *testing.T) {
	met := map[string]bool{}
	for _, x := range odd() {
		for _, c := range calls() {
			got := c.run(x)
			err := got[len(got)-1].(api.Errno)
			met[fmt.Sprint(c.name, err == api.OK)] = true
			for i, v := range got[:len(got)-1] {
				place := c.name == "Read" && i == 1 && err == api.ErrSyntax
				if err != api.OK && !place && !reflect.ValueOf(v).IsZero() {
					t.Errorf("%s: result %d is %.100v with error %v", c.name, i, v, err)
				}
			}
		}
	}
	is(t, len(met), 2*len(calls()))
}

// usual are arguments that are right.
func usual() given {
	a, b := edits("1,1,xy 3,2, 7,0,z"), edits("0,2,u 5,1,vw")
	return given{8, 4, a, b, [][]api.Edit{a, b, edits("2,0,q")}, "abcdefgh", "2 1 \"x\"\n0 1 \"y\"\n", true}
}

// hidden is an equal list with other memory behind its length.
func hidden(l []api.Edit) []api.Edit {
	return append(append([]api.Edit{}, l...), edits("7,7,q -7,-7,r")...)[:len(l)]
}

// Z2: arguments are not modified, nor is memory behind the lengths of their lists; nor is it looked at.
func TestArgumentsStay(t *testing.T) {
	x, plain := usual(), usual()
	x.a, x.b = hidden(x.a), hidden(x.b)
	for i := range x.l {
		x.l[i] = hidden(x.l[i])
	}
	x.l = append(x.l, edits("9,9,q"))[:len(x.l)]
	look := func() string {
		s := fmt.Sprint(x.a[:cap(x.a)], x.b[:cap(x.b)], x.l[:cap(x.l)])
		for _, l := range x.l {
			s += fmt.Sprint(l[:cap(l)])
		}
		return s
	}
	before := look()
	for _, c := range calls() {
		is(t, []any{c.name, c.run(x)}, []any{c.name, c.run(plain)})
		is(t, []any{c.name, look()}, []any{c.name, before})
	}
}

// spoil writes over all of a list, behind its length, too.
func spoil[T any](list []T, by T) {
	list = list[:cap(list)]
	for i := range list {
		list[i] = by
	}
}

// Z2: changing results changes neither arguments nor other results.
func TestResultsAreNew(t *testing.T) {
	x := usual()
	before, want := fmt.Sprint(x), fmt.Sprint(usual())
	other := api.Edit{At: 99, Old: 99, New: "other"}
	for _, l := range [][]api.Edit{x.a, nil} {
		for _, c := range calls() {
			y := x
			y.a, y.l = l, [][]api.Edit{l, nil}
			got := c.run(y)
			for i, v := range got {
				rest := fmt.Sprint(got[:i], got[i+1:])
				switch list := v.(type) {
				case []api.Edit:
					spoil(list, other)
				case []int:
					spoil(list, 99)
				}
				is(t, []any{c.name, fmt.Sprint(got[:i], got[i+1:])}, []any{c.name, rest})
			}
			is(t, []any{c.name, fmt.Sprint(x)}, []any{c.name, before})
		}
	}
	l, _ := edit.Then(8, nil, x.b)
	spoil(l, other)
	l, _ = edit.Fold(8, [][]api.Edit{nil, x.a})
	spoil(l, other)
	l, _ = edit.Fold(8, [][]api.Edit{x.a})
	spoil(l, other)
	is(t, fmt.Sprint(x), want)
}

// Z1, Z7: the same arguments give the same results, also from several goroutines at once.
func TestSameResults(t *testing.T) {
	x, y := usual(), usual()
	y.a, y.b, y.s, y.t = y.b, y.a, "hgfedcba", "x\n"
	all := func() string {
		var s strings.Builder
		for _, c := range calls() {
			fmt.Fprintln(&s, c.name, c.run(x), c.run(y))
		}
		return s.String()
	}
	want := all()
	got := make([]string, 8)
	var group sync.WaitGroup
	for i := range got {
		group.Go(func() { got[i] = all() })
	}
	group.Wait()
	for _, s := range got {
		is(t, s, want)
	}
}

// Z5: empty and nil lists are the same.
func TestEmptyLists(t *testing.T) {
	x, y := usual(), usual()
	for i := range 3 {
		if i != 1 {
			x.a, y.a = nil, []api.Edit{}
		}
		if i > 0 {
			x.b, y.b = nil, []api.Edit{}
		}
		x.l, y.l = [][]api.Edit{x.a, x.b, nil}, [][]api.Edit{y.a, y.b, {}}
		for _, c := range calls() {
			is(t, []any{c.name, c.run(x)}, []any{c.name, c.run(y)})
		}
		x, y = usual(), usual()
	}
}
