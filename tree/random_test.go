package tree_test

import (
	"fmt"
	"math/rand/v2"
	"reflect"
	"regexp"
	"slices"
	"strings"
	"testing"

	"hedgelayer/api"
	"hedgelayer/tree"
)

// These tests compare the package with plain ways to the same results, on many small trees.

func pick[T any](r *rand.Rand, list ...T) T { return list[r.IntN(len(list))] }

// grow is a tree with some parts more, up to most of them, and how many there are then.
func grow(r *rand.Rand, most int) (api.Tree, int) {
	if most == 1 || r.IntN(3) == 0 {
		if r.IntN(4) == 0 {
			return node(r.IntN(2)), 1
		}
		return leaf(pick(r, "a", "b"), pick(r, "", " ", "\n", "\"", "x\n\n"), pick(r, "", "1", "ab", "\n", "\x00é")), 1
	}
	x, count := node(r.IntN(2)), 1
	for count < most && r.IntN(4) > 0 {
		kid, n := grow(r, most-count)
		x.Kids = append(x.Kids, kid)
		count += n
	}
	return x, count
}

func grown(r *rand.Rand, most int) api.Tree {
	x, _ := grow(r, most)
	return x
}

// altered is a tree in which some parts are other ones.
func altered(r *rand.Rand, x api.Tree) api.Tree {
	for range r.IntN(4) {
		paths, _ := tree.Paths(x)
		x, _ = tree.Put(x, pick(r, paths...), grown(r, 3))
	}
	return x
}

// each calls test with many trees and others that differ from them in some parts.
func each(count, most int, test func(r *rand.Rand, x, y api.Tree)) {
	r := rand.New(rand.NewPCG(4, uint64(most)))
	for range count {
		x := grown(r, most)
		test(r, x, altered(r, x))
	}
}

// plainPart is a part with its path.
type plainPart struct {
	path []int
	part api.Tree
}

func plainParts(path []int, x api.Tree) []plainPart {
	list := []plainPart{{path, x}}
	for i, kid := range x.Kids {
		list = append(list, plainParts(append(slices.Clone(path), i), kid)...)
	}
	return list
}

// owner is a byte of a text with its leaf.
type owner struct {
	c    byte
	leaf api.Leaf
}

func owners(list []plainPart) []owner {
	var all []owner
	for _, p := range list {
		for i, s := range []string{p.part.Token.Lead, p.part.Token.Text} {
			for at := range len(s) {
				all = append(all, owner{s[at], api.Leaf{Path: p.path, InText: i == 1, At: at}})
			}
		}
	}
	return all
}

func begins(path, with []int) bool {
	return len(path) >= len(with) && slices.Equal(path[:len(with)], with)
}

// P4.2: parts, tokens, words, texts and sizes.
func TestRandomParts(t *testing.T) {
	each(1_000, 12, func(_ *rand.Rand, x, _ api.Tree) {
		list := plainParts(nil, x)
		var tokens []api.Token
		var word []string
		var paths [][]int
		text, depth, leaves := "", 0, 0
		for _, p := range list {
			paths = append(paths, p.path)
			depth = max(depth, len(p.path)+1)
			part, err := tree.Part(x, p.path)
			is(t, []any{err, reflect.DeepEqual(part, p.part)}, []any{api.OK, true})
			if p.part.Rule == -1 {
				tokens = append(tokens, p.part.Token)
				word = append(word, p.part.Token.Kind)
				text += p.part.Token.Lead + p.part.Token.Text
				path, err := tree.Nth(x, leaves)
				is(t, []any{path, err}, []any{p.path, api.OK})
				leaves++
			}
		}
		gotTokens, _ := tree.Tokens(x)
		gotWord, _ := tree.Word(x)
		gotText, _ := tree.Text(x)
		gotPaths, _ := tree.Paths(x)
		count, gotDepth, _ := tree.Size(x)
		is(t, []any{gotTokens, gotWord, gotText, gotPaths, count, gotDepth}, []any{tokens, word, text, paths, len(list), depth})
		is(t, slices.IsSortedFunc(gotPaths, slices.Compare[[]int]), true)
		_, err := tree.Nth(x, leaves)
		is(t, err, api.ErrNone)
	})
}

// P4.2: what is put is there, and all else stays.
func TestRandomPut(t *testing.T) {
	each(500, 10, func(r *rand.Rand, x, _ api.Tree) {
		by := grown(r, 4)
		for _, p := range plainParts(nil, x) {
			y, err := tree.Put(x, p.path, by)
			is(t, err, api.OK)
			part, _ := tree.Part(y, p.path)
			is(t, part, by)
			for _, q := range plainParts(nil, x) {
				if !begins(q.path, p.path) && !begins(p.path, q.path) {
					part, err = tree.Part(y, q.path)
					is(t, []any{part, err}, []any{q.part, api.OK})
				}
			}
			back, _ := tree.Put(y, p.path, p.part)
			is(t, back, x)
		}
	})
}

// P4.3: spans, places and leaves, by who owns which byte.
func TestRandomPlaces(t *testing.T) {
	each(500, 12, func(_ *rand.Rand, x, _ api.Tree) {
		list := plainParts(nil, x)
		bytes := owners(list)
		for _, p := range list {
			from, to, err := tree.Span(x, p.path)
			wantFrom, wantTo := plainSpan(bytes, p.path)
			is(t, []any{p.path, from, to, err}, []any{p.path, wantFrom, wantTo, api.OK})
			at := wantFrom
			for _, q := range plainParts(nil, p.part) {
				if q.part.Rule == -1 {
					at += len(q.part.Token.Lead)
					break
				}
			}
			text, _ := tree.Text(x)
			lines := strings.Split(text[:at], "\n")
			line, column, err := tree.Place(x, p.path)
			is(t, []any{p.path, line, column, err}, []any{p.path, len(lines) - 1, len(lines[len(lines)-1]), api.OK})
		}
		for at, b := range bytes {
			l, err := tree.Find(x, at)
			is(t, []any{at, l, err}, []any{at, b.leaf, api.OK})
		}
		_, err := tree.Find(x, len(bytes))
		is(t, err, api.ErrArg)
	})
}

// plainSpan is the span of a part: its bytes, or the place behind those of all leaves before it.
func plainSpan(bytes []owner, path []int) (int, int) {
	from := slices.IndexFunc(bytes, func(b owner) bool { return begins(b.leaf.Path, path) })
	count := 0
	for _, b := range bytes {
		if begins(b.leaf.Path, path) {
			count++
		}
	}
	if from < 0 {
		from = 0
		for _, b := range bytes {
			if slices.Compare(b.leaf.Path, path) < 0 {
				from++
			}
		}
	}
	return from, from + count
}

// P4.3: the deepest part that spans bytes is the one with the longest path.
func TestRandomCover(t *testing.T) {
	each(300, 12, func(_ *rand.Rand, x, _ api.Tree) {
		list := plainParts(nil, x)
		bytes := owners(list)
		for from := range bytes {
			for to := from + 1; to <= len(bytes); to++ {
				var want []int
				for _, p := range list {
					first, last := plainSpan(bytes, p.path)
					if first <= from && to <= last && len(p.path) > len(want) {
						want = p.path
					}
				}
				path, err := tree.Cover(x, from, to)
				is(t, []any{from, to, path, err}, []any{from, to, want, api.OK})
			}
		}
	})
}

// P4.4: with its parts at the paths of Diff put in, a tree becomes the other one, and these parts are needed.
func TestRandomDiff(t *testing.T) {
	each(2_000, 12, func(_ *rand.Rand, x, y api.Tree) {
		paths, err := tree.Diff(x, y)
		is(t, []any{err, len(paths) == 0}, []any{api.OK, reflect.DeepEqual(x, y)})
		z := x
		for i, path := range paths {
			a, _ := tree.Part(x, path)
			b, err := tree.Part(y, path)
			is(t, err, api.OK)
			if a.Rule == b.Rule && a.Rule >= 0 && len(a.Kids) == len(b.Kids) {
				t.Errorf("%v and %v differ in less than the part at %v", x, y, path)
			}
			is(t, i == 0 || slices.Compare(paths[i-1], path) < 0, true)
			z, _ = tree.Put(z, path, b)
		}
		is(t, reflect.DeepEqual(z, y), true)
	})
}

// kinds are the Dumps of all parts of a tree.
func kinds(t *testing.T, x api.Tree) map[string]bool {
	all := map[string]bool{}
	for _, p := range plainParts(nil, x) {
		all[dump(t, p.part)] = true
	}
	return all
}

// P4.4: trees are different if their Dumps are.
func TestRandomShared(t *testing.T) {
	each(1_000, 20, func(_ *rand.Rand, x, y api.Tree) {
		a, b := kinds(t, x), kinds(t, y)
		both := 0
		for s := range a {
			if b[s] {
				both++
			}
		}
		n, _ := tree.Distinct(x)
		m, _ := tree.Distinct(y)
		k, _ := tree.Shared(x, y)
		is(t, []int{n, m, k}, []int{len(a), len(b), both})
	})
}

// P4.4: what is alike is equal without Leads, and has the same word.
func TestRandomAlike(t *testing.T) {
	each(1_000, 12, func(r *rand.Rand, x, y api.Tree) {
		same, err := tree.Alike(x, y)
		is(t, []any{same, err}, []any{reflect.DeepEqual(bare(x, ""), bare(y, "")), api.OK})
		same, _ = tree.Alike(x, bare(x, pick(r, "", " ")))
		is(t, same, true)
	})
}

// bare is a tree whose leaves have all the same Lead.
func bare(x api.Tree, lead string) api.Tree {
	if x.Rule == -1 {
		x.Token.Lead = lead
	}
	kids := []api.Tree{}
	for _, kid := range x.Kids {
		kids = append(kids, bare(kid, lead))
	}
	x.Kids = kids
	return x
}

// P4.6: a Dump is read as it was.
func TestRandomDump(t *testing.T) {
	each(1_000, 20, func(_ *rand.Rand, x, _ api.Tree) {
		y, at, err := tree.Read(dump(t, x))
		is(t, []any{at, err, reflect.DeepEqual(x, y)}, []any{0, api.OK, true})
	})
}

// accepts reports whether a string is the Dump of a tree of any size, by replacing trees from within.
func accepts(s string) bool {
	const quoted = `"([ !#-\[\]-~]|\\([01][0-9a-f]|22|5c|7f|[89a-f][0-9a-f]))*"`
	if strings.Contains(s, "\x00") {
		return false
	}
	s = leafForm(`[a-z][a-z0-9_]*`+quoted+quoted).ReplaceAllString(s, "\x00")
	form := leafForm(`\((0|[1-9][0-9]{0,8})( \x00)*\)`)
	for {
		inner := form.ReplaceAllString(s, "\x00")
		if inner == s {
			return s == "\x00"
		}
		s = inner
	}
}

var forms = map[string]*regexp.Regexp{}

func leafForm(text string) *regexp.Regexp {
	if forms[text] == nil {
		forms[text] = regexp.MustCompile(text)
	}
	return forms[text]
}

// goesOn reports whether a Dump begins with a string: something short makes it one.
func goesOn(s string) bool {
	for _, digits := range []string{"", "0", "00", "2", "c", "f"} {
		for _, rest := range []string{"", `"`, `""`, `"""`, `""""`, `a""""`, "0"} {
			end := digits + rest
			for range strings.Count(s, "(") + 2 {
				if accepts(s + end) {
					return true
				}
				end += ")"
			}
		}
	}
	return false
}

// P4.6: the offset of an error is the least one so that no Dump begins so.
func TestRandomSyntax(t *testing.T) {
	each(1_500, 6, func(r *rand.Rand, x, _ api.Tree) {
		s := dump(t, x)
		for range 1 + r.IntN(2) {
			at := r.IntN(len(s) + 1)
			to := min(len(s), at+r.IntN(3))
			s = s[:at] + pick(r, "", "", "\"", "\\", "(", ")", " ", "a", "0", "1", "4", "22", "\n", "A") + s[to:]
		}
		_, at, err := tree.Read(s)
		if err != api.ErrSyntax {
			is(t, []any{s, accepts(s)}, []any{s, true})
			return
		}
		if !goesOn(s[:at]) || at < len(s) && goesOn(s[:at+1]) || accepts(s) {
			t.Errorf("%q: the offset is %d", s, at)
		}
	})
}

// P4.1: the checks of a grammar, by what the parts are.
func TestRandomCheck(t *testing.T) {
	g := api.Grammar{Kinds: []string{"a"}, Start: "s", Rules: []api.Rule{{Left: "s", Right: []string{"a", "s"}}, {Left: "s"}}}
	met := map[api.Errno]int{}
	each(3_000, 5, func(_ *rand.Rand, x, _ api.Tree) {
		want := api.OK
		for _, p := range plainParts(nil, x) {
			if want != api.OK {
				break
			}
			switch {
			case p.part.Rule == -1 && p.part.Token.Kind == "b":
				want = api.ErrNone
			case p.part.Rule == 0 && len(p.part.Kids) != 2 || p.part.Rule == 1 && len(p.part.Kids) != 0:
				want = api.ErrRule
			}
		}
		for _, p := range plainParts(nil, x) {
			if want == api.OK && p.part.Rule == 0 && (p.part.Kids[0].Rule != -1 || p.part.Kids[1].Rule == -1) {
				want = api.ErrType
			}
		}
		met[want]++
		is(t, []any{x, tree.Check(g, x)}, []any{x, want})
	})
	is(t, fmt.Sprint(len(met), met[api.OK] > 100, met[api.ErrType] > 10), "4 true true")
}
