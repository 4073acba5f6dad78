package edit_test

import (
	"fmt"
	"math/rand/v2"
	"regexp"
	"slices"
	"strconv"
	"strings"
	"testing"

	"hedgelayer/api"
	"hedgelayer/edit"
)

// These tests compare the package with plain ways to the same results, on many small texts and changes.

func pick[T any](r *rand.Rand, list ...T) T { return list[r.IntN(len(list))] }

// text is a text of at most most bytes.
func text(r *rand.Rand, most int) string {
	s := ""
	for range r.IntN(most + 1) {
		s += pick(r, "a", "b")
	}
	return s
}

// change is a change of texts with n bytes.
func change(r *rand.Rand, n int) []api.Edit {
	var l []api.Edit
	for at := r.IntN(3); at <= n && r.IntN(6) > 0; at += 1 + r.IntN(3) {
		e := api.Edit{At: at, Old: min(n-at, r.IntN(4)), New: pick(r, "", "a", "b", "ab", "bba")}
		if e.Old > 0 || e.New != "" {
			l = append(l, e)
			at += e.Old
		}
	}
	return l
}

// each calls test with many texts and changes of them.
func each(count, most int, test func(r *rand.Rand, s string, a, b []api.Edit)) {
	r := rand.New(rand.NewPCG(6, uint64(most)))
	for range count {
		s := text(r, most)
		test(r, s, change(r, len(s)), change(r, len(s)))
	}
}

// mark is a byte with a name that says where it is from.
type mark struct {
	name string
	c    byte
}

// marks are the bytes of a text, named by a letter and their offsets.
func marks(name, s string) []mark {
	var list []mark
	for i := range len(s) {
		list = append(list, mark{name + strconv.Itoa(i), s[i]})
	}
	return list
}

// news are the bytes of the New of the edit of a change with an offset.
func news(name string, l []api.Edit, at int) []mark {
	for _, e := range l {
		if e.At == at {
			return marks(name+strconv.Itoa(at)+".", e.New)
		}
	}
	return nil
}

// keeps reports whether a change keeps a byte.
func keeps(l []api.Edit, at int) bool {
	for _, e := range l {
		if e.At <= at && at < e.At+e.Old {
			return false
		}
	}
	return true
}

// made is a text after two changes, offset by offset.
func made(old []mark, a, b []api.Edit) []mark {
	var list []mark
	for p := range len(old) + 1 {
		list = append(list, news("a", a, p)...)
		list = append(list, news("b", b, p)...)
		if p < len(old) && keeps(a, p) && keeps(b, p) {
			list = append(list, old[p])
		}
	}
	return list
}

// between is the change of a text into another one that keeps all bytes with names that both have.
func between(old, now []mark) []api.Edit {
	var l []api.Edit
	from, begin := 0, 0
	gap := func(to, end int) {
		e := api.Edit{At: from, Old: to - from}
		for _, m := range now[begin:end] {
			e.New += string([]byte{m.c})
		}
		if e.Old > 0 || e.New != "" {
			l = append(l, e)
		}
		from, begin = to+1, end+1
	}
	for j, m := range now {
		if i := slices.Index(old, m); i >= 0 {
			gap(i, j)
		}
	}
	gap(len(old), len(now))
	return l
}

func str(list []mark) string {
	s := ""
	for _, m := range list {
		s += string([]byte{m.c})
	}
	return s
}

// P6.1, P6.2: texts after changes, where their bytes were, and back.
func TestRandomChanges(t *testing.T) {
	each(5_000, 9, func(_ *rand.Rand, s string, a, _ []api.Edit) {
		old := marks("o", s)
		now := made(old, a, nil)
		is(t, words(between(old, now)), words(a))
		got, err := edit.Apply(s, a)
		n, err2 := edit.Length(len(s), a)
		is(t, []any{s, a, got, n, err, err2}, []any{s, a, str(now), len(now), api.OK, api.OK})
		origin, err := edit.Origin(len(s), a)
		var want []int
		for _, m := range now {
			want = append(want, slices.Index(old, m))
		}
		is(t, []any{s, a, origin, err}, []any{s, a, want, api.OK})
		back, err := edit.Inverse(s, a)
		is(t, []any{s, a, words(back), err}, []any{s, a, words(between(now, old)), api.OK})
		again, _ := edit.Inverse(got, back)
		is(t, words(again), words(a))
	})
}

// P6.1: what is a change.
func TestRandomCheck(t *testing.T) {
	r := rand.New(rand.NewPCG(6, 1))
	met := map[api.Errno]int{}
	for range 5_000 {
		n, l := r.IntN(6), make([]api.Edit, r.IntN(4))
		want, behind := api.OK, -1
		for i := range l {
			e := api.Edit{At: r.IntN(8) - 1, Old: r.IntN(5) - 1, New: pick(r, "", "x")}
			l[i] = e
			switch {
			case want != api.OK:
			case e.At < 0 || e.At > n || e.Old < 0 || e.At+e.Old > n:
				want = api.ErrArg
			case e.Old == 0 && e.New == "":
				want = api.ErrForm
			case e.At <= behind:
				want = api.ErrOrder
			}
			behind = e.At + e.Old
		}
		met[want]++
		is(t, []any{n, l, edit.Check(n, l)}, []any{n, l, want})
	}
	is(t, fmt.Sprint(len(met), met[api.OK] > 500, met[api.ErrOrder] > 30, met[api.ErrForm] > 100), "4 true true true")
}

// P6.3: the bytes that both changes keep are kept, however they are put together.
func TestRandomThen(t *testing.T) {
	each(10_000, 9, func(r *rand.Rand, s string, a, _ []api.Edit) {
		old := marks("o", s)
		middle := made(old, a, nil)
		b := change(r, len(middle))
		now := made(middle, nil, b)
		l, err := edit.Then(len(s), a, b)
		is(t, []any{s, a, b, words(l), err}, []any{s, a, b, words(between(old, now)), api.OK})
		is(t, edit.Check(len(s), l), api.OK)
		c := change(r, len(now))
		first, _ := edit.Then(len(s), l, c)
		rest, _ := edit.Then(len(middle), b, c)
		second, _ := edit.Then(len(s), a, rest)
		all, err := edit.Fold(len(s), [][]api.Edit{a, b, c})
		is(t, []any{s, a, b, c, words(first), words(second), err}, []any{s, a, b, c, words(all), words(all), api.OK})
		back, _ := edit.Inverse(s, a)
		same, _ := edit.Then(len(s), a, back)
		got, _ := edit.Apply(s, same)
		is(t, got, s)
	})
}

// P6.3: many changes, one after the other.
func TestRandomFold(t *testing.T) {
	each(300, 30, func(r *rand.Rand, s string, _, _ []api.Edit) {
		old := marks("o", s)
		now := old
		var l [][]api.Edit
		for i := range r.IntN(12) {
			next := change(r, len(now))
			now = made(now, nil, next)
			for j := range now {
				if now[j].name[0] == 'b' {
					now[j].name = fmt.Sprint("c", i, " ", j)
				}
			}
			l = append(l, next)
		}
		got, err := edit.Fold(len(s), l)
		is(t, []any{s, l, words(got), err}, []any{s, l, words(between(old, now)), api.OK})
	})
}

// P6.4: two changes past one another, and both.
func TestRandomPast(t *testing.T) {
	each(10_000, 9, func(_ *rand.Rand, s string, a, b []api.Edit) {
		old := marks("o", s)
		all := made(old, a, b)
		l, err := edit.Both(len(s), a, b)
		is(t, []any{s, a, b, words(l), err}, []any{s, a, b, words(between(old, all)), api.OK})
		p, q, err := edit.Past(len(s), a, b)
		past := []string{words(between(made(old, a, nil), all)), words(between(made(old, nil, b), all))}
		is(t, []any{s, a, b, words(p), words(q), err}, []any{s, a, b, past[0], past[1], api.OK})
		first, _ := edit.Then(len(s), a, p)
		second, _ := edit.Then(len(s), b, q)
		is(t, []string{words(first), words(second)}, []string{words(l), words(l)})
	})
}

// P6.4: changes that do not clash are the same in either order.
func TestRandomClash(t *testing.T) {
	met := 0
	each(5_000, 12, func(_ *rand.Rand, s string, a, b []api.Edit) {
		want := false
		for p := range len(s) + 1 {
			in := func(e api.Edit) bool { return e.At <= p && p <= e.At+e.Old }
			want = want || slices.ContainsFunc(a, in) && slices.ContainsFunc(b, in)
		}
		got, err := edit.Clash(len(s), a, b)
		is(t, []any{s, a, b, got, err}, []any{s, a, b, want, api.OK})
		if !got {
			met++
			l, _ := edit.Both(len(s), a, b)
			back, _ := edit.Both(len(s), b, a)
			is(t, words(l), words(back))
		}
	})
	is(t, met > 500, true)
}

// P6.5: where places are, by the text ahead of them.
func TestRandomMoved(t *testing.T) {
	each(3_000, 9, func(_ *rand.Rand, s string, a, _ []api.Edit) {
		now := made(marks("o", s), a, nil)
		for at := range len(s) + 1 {
			ahead, behind := slices.IndexFunc(now, func(m mark) bool { return m.name == "o"+strconv.Itoa(at) }), 0
			if at == len(s) {
				ahead = len(now)
			}
			behind = ahead
			for i, e := range a {
				if e.At <= at && at <= e.At+e.Old {
					ahead = len(made(marks("o", s[:e.At]), a[:i], nil))
					behind = ahead + len(e.New)
				}
			}
			got, err := edit.Moved(len(s), a, at, false)
			got2, err2 := edit.Moved(len(s), a, at, true)
			is(t, []any{s, a, at, got, got2, err, err2}, []any{s, a, at, ahead, behind, api.OK, api.OK})
		}
	})
}

// hull is the first edit that has what P6.5 says of Hull, tried in the order in which it wants them.
func hull(s, now string, l []api.Edit) api.Edit {
	for at := len(s); at >= 0; at-- {
		for old := range len(s) - at + 1 {
			fits := !slices.ContainsFunc(l, func(e api.Edit) bool { return e.At < at || e.At+e.Old > at+old })
			for p := range len(s) {
				fits = fits && (keeps(l, p) || at <= p && p < at+old)
			}
			rest, ok := strings.CutPrefix(now, s[:at])
			rest, ok2 := strings.CutSuffix(rest, s[at+old:])
			if fits && ok && ok2 {
				return api.Edit{At: at, Old: old, New: rest}
			}
		}
	}
	return api.Edit{At: -1}
}

// P6.5: one edit for all.
func TestRandomHull(t *testing.T) {
	each(3_000, 7, func(_ *rand.Rand, s string, a, _ []api.Edit) {
		now, _ := edit.Apply(s, a)
		e, ok, err := edit.Hull(s, a)
		want := api.Edit{}
		if len(a) > 0 {
			want = hull(s, now, a)
			is(t, edit.Check(len(s), []api.Edit{e}), api.OK)
		}
		is(t, []any{s, a, e, ok, err}, []any{s, a, want, len(a) > 0, api.OK})
	})
}

// kept is how many bytes a change keeps.
func kept(n int, l []api.Edit) int {
	for _, e := range l {
		n -= e.Old
	}
	return n
}

// squeezed are edits of which all that can be taken is taken, the most at the beginning first.
func squeezed(s string, l []api.Edit) []api.Edit {
	var list []api.Edit
	for _, e := range l {
		old := s[e.At : e.At+e.Old]
		i := min(len(old), len(e.New))
		for old[:i] != e.New[:i] {
			i--
		}
		old, e.New, e.At = old[i:], e.New[i:], e.At+i
		i = min(len(old), len(e.New))
		for old[len(old)-i:] != e.New[len(e.New)-i:] {
			i--
		}
		e.Old, e.New = len(old)-i, e.New[:len(e.New)-i]
		if e.Old > 0 || e.New != "" {
			list = append(list, e)
		}
	}
	return list
}

// P6.6: what is squeezed gives the same text and keeps at least as many bytes.
func TestRandomSqueezed(t *testing.T) {
	each(5_000, 12, func(_ *rand.Rand, s string, a, _ []api.Edit) {
		l, err := edit.Squeezed(s, a)
		is(t, []any{s, a, words(l), err}, []any{s, a, words(squeezed(s, a)), api.OK})
		x, _ := edit.Apply(s, a)
		y, err := edit.Apply(s, l)
		is(t, []any{y, err, kept(len(s), l) >= kept(len(s), a)}, []any{x, api.OK, true})
	})
}

// best is the list of pairs of bytes that Diff keeps behind two offsets: of the longest ones the least one.
func best(a, b string, i, j int) []int {
	var list []int
	for x := i; x < len(a); x++ {
		for y := j; y < len(b); y++ {
			if a[x] != b[y] {
				continue
			}
			other := append([]int{x, y}, best(a, b, x+1, y+1)...)
			if len(other) > len(list) || len(other) == len(list) && slices.Compare(other, list) < 0 {
				list = other
			}
		}
	}
	return list
}

// P6.6: of all changes that keep the most bytes the first one.
func TestRandomDiff(t *testing.T) {
	each(1_500, 6, func(r *rand.Rand, s string, a, _ []api.Edit) {
		other := text(r, 7)
		pairs := best(s, other, 0, 0)
		old, now := marks("o", s), marks("n", other)
		for k := 0; k < len(pairs); k += 2 {
			now[pairs[k+1]] = old[pairs[k]]
		}
		l, err := edit.Diff(s, other)
		is(t, []any{s, other, words(l), err}, []any{s, other, words(between(old, now)), api.OK})
		changed, _ := edit.Apply(s, a)
		l, _ = edit.Diff(s, changed)
		got, _ := edit.Apply(s, l)
		is(t, []any{got, kept(len(s), l) >= kept(len(s), a)}, []any{changed, true})
	})
}

var lineForm = regexp.MustCompile(`^(-?[1-9][0-9]{0,14}|0) (-?[1-9][0-9]{0,14}|0) "([ !#-\[\]-~]|\\([01][0-9a-f]|22|5c|7f|[89a-f][0-9a-f]))*"$`)

// P6.7: what is written is read as it was, and what is not is no Text.
func TestRandomText(t *testing.T) {
	r := rand.New(rand.NewPCG(6, 7))
	met := map[api.Errno]int{}
	for range 5_000 {
		l := make([]api.Edit, r.IntN(4))
		for i := range l {
			l[i] = api.Edit{At: r.IntN(30), Old: r.IntN(30), New: pick(r, "", "a", " ", "\n", "\"", "\\", "\x7f\x00", "é", "ab c")}
		}
		s, err := edit.Text(l)
		is(t, err, api.OK)
		got, line, err := edit.Read(s)
		is(t, []any{slices.Equal(got, l), line, err}, []any{true, 0, api.OK})
		at := r.IntN(len(s) + 1)
		s = s[:at] + pick(r, "", "0", "-", " ", "\"", "\\", "\n", "1", "\\0a", "x", "99999") + s[min(len(s), at+r.IntN(3)):]
		want, wantErr := 0, api.OK
		for i, line := range strings.SplitAfter(s, "\n") {
			bare, ended := strings.CutSuffix(line, "\n")
			numbers := lineForm.FindStringSubmatch(bare)
			if line == "" || wantErr == api.ErrSyntax {
				continue
			}
			if !ended || numbers == nil {
				want, wantErr = i, api.ErrSyntax
				continue
			}
			for _, number := range numbers[1:3] {
				if n, _ := strconv.Atoi(number); n < 0 || n > api.MaxText {
					wantErr = api.ErrArg
				}
			}
		}
		met[wantErr]++
		got, line, err = edit.Read(s)
		is(t, []any{s, line, err}, []any{s, want, wantErr})
		if err == api.OK {
			back, _ := edit.Text(got)
			is(t, back, s)
		}
	}
	is(t, fmt.Sprint(len(met), met[api.OK] > 500, met[api.ErrArg] > 100), "3 true true")
}
