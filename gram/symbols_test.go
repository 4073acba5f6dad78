package gram_test

import (
	"slices"
	"testing"

	"hedgelayer/api"
	"hedgelayer/gram"
)

// mixed has empty, barren, unreached and looping Lefts.
const mixed = "tokens a b c d\nstart s\n" +
	"s = x y\nx = a\nx =\ny = b y\ny =\n" +
	"z = z\nz = c\n" + // unreached, loops
	"v = v d\n" + // unreached and barren
	"s = s v c\n" // reaches v, and is in no word

// P1.4: what symbols can become.
func TestSymbols(t *testing.T) {
	g := read(t, mixed)
	tests := []struct {
		name string
		of   func(g api.Grammar) ([]string, api.Errno)
		want string
	}{
		{"Lefts", gram.Lefts, "s v x y z"},
		{"Nullable", gram.Nullable, "s x y"},
		{"Barren", gram.Barren, "v"},
		{"Unreached", gram.Unreached, "z"},
		{"Loops", gram.Loops, "z"},
	}
	for _, x := range tests {
		list, err := x.of(g)
		is(t, []any{x.name, list, err}, []any{x.name, split(x.want), api.OK})
		list, err = x.of(api.Grammar{Kinds: []string{"B", "a"}})
		is(t, []any{x.name, list, err}, []any{x.name, []string{}, api.ErrName})
	}
}

// P1.4: a kind that is a whole Right is no empty word; a Left that becomes empty by others is nullable.
func TestNullable(t *testing.T) {
	g := read(t, "tokens a\nstart s\ns = t u\nt = u u\nu =\nu = a\nw = t a\nx = a\ny = y\n")
	list, err := gram.Nullable(g)
	is(t, []any{list, err}, []any{split("s t u"), api.OK})
}

// P1.4: Lefts whose language is empty.
func TestBarren(t *testing.T) {
	g := read(t, "tokens a\nstart s\ns = t\nt = s a\nu = u\nu = v u\nv =\nw = a w\nw = a\n")
	list, err := gram.Barren(g)
	is(t, []any{list, err}, []any{split("s t u"), api.OK})
}

// P1.4: a Left derives itself if all that stands beside it can become empty.
func TestLoops(t *testing.T) {
	tests := map[string]string{
		"tokens a\nstart s\ns = s\n":                               "s",
		"tokens a\nstart s\ns = t\nt = s\ns = a\n":                 "s t",
		"tokens a\nstart s\ns = n s n\nn =\n":                      "s",
		"tokens a\nstart s\ns = s s\ns =\n":                        "s",
		"tokens a\nstart s\ns = s s\ns = a\n":                      "",
		"tokens a\nstart s\ns = s a\ns =\n":                        "",
		"tokens a\nstart s\ns = s b\nb = b\n":                      "b",
		"tokens a\nstart s\ns = t\nt = u\nu = t n\nu = a\nn =\n":   "t u",
		"tokens a\nstart s\ns = n m\nn = s\nm =\nm = a\n":          "n s",
		"tokens a\nstart s\ns = n m\nn = s\nn = a\nm = s\nm = a\n": "",
	}
	for text, want := range tests {
		list, err := gram.Loops(read(t, text))
		is(t, []any{text, list, err}, []any{text, split(want), api.OK})
	}
}

// P1.4: reached is what is in lists, also with barren symbols beside it.
func TestUnreached(t *testing.T) {
	g := read(t, "tokens a\nstart s\ns = b t\ns = a\nb = b\nt = u\nu =\nv = s w\nw = a\n")
	list, err := gram.Unreached(g)
	is(t, []any{list, err}, []any{split("v w"), api.OK})
}

// P1.4: First of lists.
func TestFirst(t *testing.T) {
	g := read(t, mixed)
	tests := []struct {
		list, want string
		empty      bool
	}{
		{"", "", true},
		{"a", "a", false},
		{"x", "a", true},
		{"y", "b", true},
		{"x y", "a b", true},
		{"y x", "a b", true},
		{"x c y", "a c", false},
		{"c x", "c", false},
		{"s", "a b", true}, // v begins with nothing, and is not empty
		{"z", "c", false},
		{"v", "", false},
		{"v a", "", false},
		{"x v", "a", false},
		{"x x x x x x x x x x x x x x x x x x x y", "a b", true},
	}
	for _, x := range tests {
		list, empty, err := gram.First(g, split(x.list))
		is(t, []any{x.list, list, empty, err}, []any{x.list, split(x.want), x.empty, api.OK})
	}
}

// P1.4: what a barren symbol begins with counts.
func TestFirstOfBarren(t *testing.T) {
	g := read(t, "tokens a b\nstart s\ns = x\ns = b\nx = a x\n")
	list, empty, err := gram.First(g, split("s"))
	is(t, []any{list, empty, err}, []any{split("a b"), false, api.OK})
	follow, end, err := gram.Follow(read(t, "tokens a b\nstart s\ns = y x\ns = b\nx = a x\ny = b\n"), "y")
	is(t, []any{follow, end, err}, []any{split("a"), false, api.OK})
}

func TestFirstErrors(t *testing.T) {
	g := read(t, mixed)
	tests := []struct {
		list []string
		want api.Errno
	}{
		{slices.Repeat([]string{"x"}, 20), api.OK},
		{slices.Repeat([]string{"x"}, 21), api.ErrLarge},
		{slices.Repeat([]string{"no"}, 21), api.ErrLarge},
		{slices.Repeat([]string{"no"}, 200_000), api.ErrLarge},
		{split("a x no"), api.ErrNone},
		{[]string{""}, api.ErrNone},
	}
	for _, x := range tests {
		list, empty, err := gram.First(g, x.list)
		is(t, err, x.want)
		if err != api.OK {
			is(t, []any{list, empty}, []any{[]string{}, false})
		}
	}
	_, _, err := gram.First(changed(func(g *api.Grammar) { g.Start = "" }), slices.Repeat([]string{"no"}, 21))
	is(t, err, api.ErrNone)
}

// P1.4: what stands behind Lefts.
func TestFollow(t *testing.T) {
	g := read(t, mixed)
	tests := []struct {
		left, want string
		end        bool
	}{
		{"s", "", true}, // behind s stands v, which begins with nothing
		{"x", "b", true},
		{"y", "", true},
		{"v", "c d", false},
		{"z", "", false}, // not reached
	}
	for _, x := range tests {
		list, end, err := gram.Follow(g, x.left)
		is(t, []any{x.left, list, end, err}, []any{x.left, split(x.want), x.end, api.OK})
	}
	for _, left := range []string{"a", "", "no", "S"} {
		list, end, err := gram.Follow(g, left)
		is(t, []any{left, list, end, err}, []any{left, []string{}, false, api.ErrNone})
	}
}

// P1.4: the example of the chapter, and rules of Lefts that are not reached, which do not count.
func TestFollowExamples(t *testing.T) {
	list, end, err := gram.Follow(small(), "e")
	is(t, []any{list, end, err}, []any{split("plus"), true, api.OK})
	first, empty, err := gram.First(small(), split("e"))
	is(t, []any{first, empty, err}, []any{split("num"), false, api.OK})
	g := read(t, "tokens a b\nstart s\ns = a t\nt =\nu = t b\nu = s a\n")
	for left, want := range map[string]bool{"s": true, "t": true, "u": false} {
		list, end, err = gram.Follow(g, left)
		is(t, []any{left, list, end, err}, []any{left, []string{}, want, api.OK})
	}
}

// P1.4: Trimmed takes barren rules away, and what is not reached then.
func TestTrimmed(t *testing.T) {
	tests := []struct{ text, want string }{
		{mixed, "tokens a b c d\nstart s\ns = x y\nx = a\nx =\ny = b y\ny =\n"},
		{"tokens a b\nstart s\ns = x y / 4\nx = x\nx = a\ny = v\ny =\nv = v b\ns = w v\nw = b\n",
			"tokens a b\nstart s\ns = x y / 4\nx = x\nx = a\ny =\n"}, // w is reached, but not without the barren v
		{"tokens num plus\nstart e\ne = e plus e\ne = num\n", "tokens num plus\nstart e\ne = e plus e\ne = num\n"},
		{"tokens\nstart s\nt = s\ns =\n", "tokens\nstart s\ns =\n"},
	}
	for _, x := range tests {
		g, err := gram.Trimmed(read(t, x.text))
		is(t, []any{x.text, err}, []any{x.text, api.OK})
		s, _ := gram.Text(g)
		is(t, s, x.want)
	}
	g, err := gram.Trimmed(read(t, "tokens a\nstart s\ns = a s\nt = a\n"))
	is(t, []any{g, err}, []any{api.Grammar{}, api.ErrNone})
	g, err = gram.Trimmed(changed(func(g *api.Grammar) { g.Rules[0].Level = 100 }))
	is(t, []any{g, err}, []any{api.Grammar{}, api.ErrArg})
}

// P1.4: symbols of the largest grammars.
func TestManyKinds(t *testing.T) {
	g := api.Grammar{Kinds: kinds(60), Start: "x"}
	for _, kind := range g.Kinds {
		g.Rules = append(g.Rules, api.Rule{Left: "x", Right: []string{"y", kind, "x"}})
	}
	g.Rules = append(g.Rules, api.Rule{Left: "x"}, api.Rule{Left: "y"})
	list, empty, err := gram.First(g, []string{"y", "x"})
	is(t, []any{list, empty, err}, []any{kinds(60), true, api.OK})
	list, end, err := gram.Follow(g, "y")
	is(t, []any{list, end, err}, []any{kinds(60), false, api.OK})
	list, end, err = gram.Follow(g, "x")
	is(t, []any{list, end, err}, []any{[]string{}, true, api.OK})
}
