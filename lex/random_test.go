package lex_test

import (
	"fmt"
	"maps"
	"math/rand/v2"
	"slices"
	"strings"
	"testing"

	"hedgelayer/api"
	"hedgelayer/lex"
)

// These tests compare the functions with plain ways to find the same, for many small patterns and marks.

// letters are the bytes of strings that are tried: most patterns read a to c.
const letters = "abcd"

func randomPat(r *rand.Rand, depth int) api.Pat {
	op := 1 + r.IntN(4)
	if depth == 0 {
		op = api.PatBytes
	}
	p := api.Pat{Op: op}
	switch op {
	case api.PatBytes:
		p.Low = 'a' + r.IntN(3)
		p.High = p.Low + r.IntN('c'-p.Low+1)
		return p
	case api.PatThen:
		p.Args = make([]api.Pat, []int{0, 2, 2, 3}[r.IntN(4)])
	case api.PatOr:
		p.Args = make([]api.Pat, 2+r.IntN(2))
	case api.PatStar:
		p.Args = make([]api.Pat, 1)
	}
	for i := range p.Args {
		p.Args[i] = randomPat(r, depth-1)
	}
	return p
}

// eachPat calls test with many patterns.
func eachPat(t *testing.T, count int, test func(r *rand.Rand, p api.Pat) bool) {
	t.Helper()
	r := rand.New(rand.NewPCG(1, 2))
	for range count {
		p := randomPat(r, 3)
		if !test(r, p) {
			s, _ := lex.PatText(p)
			t.Fatalf("of the pattern %s", s)
		}
	}
}

// eachMarks calls test with many right lists of marks.
func eachMarks(t *testing.T, count int, test func(r *rand.Rand, m []api.Mark) bool) {
	t.Helper()
	r := rand.New(rand.NewPCG(3, 4))
	for n := 0; n < count; {
		var m []api.Mark
		for range 1 + r.IntN(4) {
			m = append(m, mark([]string{"", "x", "y", "z"}[r.IntN(4)], randomPat(r, 2)))
		}
		if lex.Check(m) != api.OK {
			continue
		}
		n++
		if !test(r, m) {
			s, _ := lex.Text(m)
			t.Fatalf("of the marks\n%s", s)
		}
	}
}

// same compares results; it says what differs.
func same(t *testing.T, what string, got, want any) bool {
	t.Helper()
	if fmt.Sprintf("%q %v", got, got) != fmt.Sprintf("%q %v", want, want) {
		t.Errorf("%s: got %#v, want %#v", what, got, want)
		return false
	}
	return true
}

// ends are the offsets where strings end that a pattern fits and that begin at one of some offsets.
func ends(p api.Pat, s string, from map[int]bool) map[int]bool {
	to := map[int]bool{}
	switch p.Op {
	case api.PatBytes:
		for i := range from {
			if i < len(s) && int(s[i]) >= p.Low && int(s[i]) <= p.High {
				to[i+1] = true
			}
		}
	case api.PatThen:
		to = from
		for _, arg := range p.Args {
			to = ends(arg, s, to)
		}
	case api.PatOr:
		for _, arg := range p.Args {
			maps.Copy(to, ends(arg, s, from))
		}
	case api.PatStar:
		maps.Copy(to, from)
		for before := -1; before != len(to); {
			before = len(to)
			maps.Copy(to, ends(p.Args[0], s, to))
		}
	}
	return to
}

func plainFits(p api.Pat, s string) bool { return ends(p, s, map[int]bool{0: true})[len(s)] }

// alive are the places, by their paths, where the last byte of s is read, if s from one of some offsets on is the beginning of what p fits.
func alive(p api.Pat, s string, from map[int]bool, path string) []string {
	var places []string
	switch p.Op {
	case api.PatBytes:
		if from[len(s)-1] && ends(p, s, from)[len(s)] {
			places = append(places, path)
		}
	case api.PatThen:
		for i, arg := range p.Args {
			places = append(places, alive(arg, s, from, fmt.Sprint(path, ".", i))...)
			from = ends(arg, s, from)
		}
	case api.PatOr:
		for i, arg := range p.Args {
			places = append(places, alive(arg, s, from, fmt.Sprint(path, ".", i))...)
		}
	case api.PatStar:
		places = alive(p.Args[0], s, ends(p, s, from), path+".0")
	}
	return places
}

// setOf is the set of marks after a string.
func setOf(m []api.Mark, s string) string {
	var places []string
	for i, x := range m {
		places = append(places, alive(x.Pat, s, map[int]bool{0: true}, fmt.Sprint(i))...)
	}
	return strings.Join(places, " ")
}

// explored are strings for all sets of marks: those that are found first, by length, then byte by byte.
func explored(m []api.Mark) (list []string) {
	known := map[string]bool{}
	list = []string{""}
	for i := 0; i < len(list); i++ {
		for _, c := range letters {
			s := list[i] + string(c)
			if set := setOf(m, s); !known[set] {
				known[set] = true
				list = append(list, s)
			}
		}
	}
	return list
}

// winner is the mark that wins a string, or -1.
func winner(m []api.Mark, s string) int {
	return slices.IndexFunc(m, func(x api.Mark) bool { return plainFits(x.Pat, s) })
}

// strings of the letters with at most most bytes, by their length, then byte by byte.
func allStrings(most int) []string {
	list := []string{""}
	for i := 0; len(list[i]) < most; i++ {
		for _, c := range letters {
			list = append(list, list[i]+string(c))
		}
	}
	return list
}

// P2.1: what patterns fit.
func TestRandomFits(t *testing.T) {
	all := allStrings(5)
	eachPat(t, 150, func(r *rand.Rand, p api.Pat) bool {
		for _, s := range all {
			got, err := lex.Fits(p, s)
			if !same(t, s, []any{got, err}, []any{plainFits(p, s), api.OK}) {
				return false
			}
		}
		return true
	})
}

// P2.1: in what patterns differ.
func TestRandomDiffer(t *testing.T) {
	all := allStrings(5)
	eachPat(t, 300, func(r *rand.Rand, p api.Pat) bool {
		q := randomPat(r, 3)
		s, ok, err := lex.Differ(p, q)
		at := slices.IndexFunc(all, func(x string) bool { return plainFits(p, x) != plainFits(q, x) })
		text, _ := lex.PatText(q)
		if at >= 0 {
			return same(t, text, []any{s, ok, err}, []any{all[at], true, api.OK})
		}
		if ok {
			return same(t, text, []any{len(s) > 5, plainFits(p, s) != plainFits(q, s), err}, []any{true, true, api.OK})
		}
		return same(t, text, []any{s, err}, []any{"", api.OK})
	})
}

// P2.2: a pattern is read as it was written; a text that is read is that of its pattern.
func TestRandomPatText(t *testing.T) {
	bytes := "ab|*()[]-\\20"
	eachPat(t, 5000, func(r *rand.Rand, p api.Pat) bool {
		s, err := lex.PatText(p)
		q, err2 := lex.ReadPat(s)
		if !same(t, s, []any{q, err, err2}, []any{p, api.OK, api.OK}) {
			return false
		}
		i := r.IntN(len(s) + 1)
		cut := min(len(s), i+r.IntN(3))
		other := s[:i] + strings.Repeat(bytes[r.IntN(len(bytes)):][:1], r.IntN(3)) + s[cut:]
		p, err = lex.ReadPat(other)
		if err == api.ErrSyntax {
			return true
		}
		again, err2 := lex.PatText(p)
		return same(t, other, []any{again, err, err2}, []any{other, api.OK, api.OK})
	})
}

// P2.2: of all short texts just those of patterns are read.
func TestShortPatTexts(t *testing.T) {
	written := map[string]bool{}
	r := rand.New(rand.NewPCG(5, 6))
	for range 200_000 {
		p := randomPat(r, 3)
		if s, err := lex.PatText(p); err == api.OK && len(s) <= 6 {
			written[s] = true
		}
	}
	read := 0
	list := []string{""}
	for i := 0; i < len(list); i++ {
		if len(list[i]) < 6 {
			for _, c := range "ab|*()" {
				list = append(list, list[i]+string(c))
			}
		}
		p, err := lex.ReadPat(list[i])
		if err != api.OK {
			same(t, list[i], []any{err, written[list[i]]}, []any{api.ErrSyntax, false})
			continue
		}
		read++
		s, err := lex.PatText(p)
		same(t, list[i], []any{s, err}, []any{list[i], api.OK})
	}
	same(t, "many are read", read > 1000, true)
}

// P2.3, P2.4: sets, least strings, shadowed marks.
func TestRandomSets(t *testing.T) {
	eachMarks(t, 400, func(r *rand.Rand, m []api.Mark) bool {
		list := explored(m)
		n, err := lex.Sets(m)
		if !same(t, "Sets", []any{n, err}, []any{len(list) - 1, api.OK}) {
			return false
		}
		var shadowed []int
		for i := range m {
			at := slices.IndexFunc(list, func(s string) bool { return winner(m, s) == i })
			want := ""
			if at >= 0 {
				want = list[at]
			} else {
				shadowed = append(shadowed, i)
			}
			s, ok, err := lex.Least(m, i)
			if !same(t, fmt.Sprint("Least ", i), []any{s, ok, err}, []any{want, at >= 0, api.OK}) {
				return false
			}
		}
		l, err := lex.Shadowed(m)
		return same(t, "Shadowed", []any{l, err}, []any{shadowed, api.OK})
	})
}

// P2.4: least strings, among all short ones.
func TestRandomLeast(t *testing.T) {
	all := allStrings(4)
	eachMarks(t, 150, func(r *rand.Rand, m []api.Mark) bool {
		for i := range m {
			s, ok, _ := lex.Least(m, i)
			at := slices.IndexFunc(all, func(x string) bool { return winner(m, x) == i })
			if at >= 0 && !same(t, fmt.Sprint(i), []any{s, ok}, []any{all[at], true}) || at < 0 && ok && len(s) <= 4 {
				return false
			}
		}
		return true
	})
}

// P2.4: marks are read as they were written.
func TestRandomText(t *testing.T) {
	eachMarks(t, 500, func(r *rand.Rand, m []api.Mark) bool {
		s, err := lex.Text(m)
		got, line, err2 := lex.Read(s)
		return same(t, s, []any{got, line, err, err2}, []any{m, 0, api.OK, api.OK})
	})
}

func randomText(r *rand.Rand, most int) string {
	var b strings.Builder
	for range r.IntN(most + 1) {
		b.WriteByte("aaabbbcccd"[r.IntN(10)])
	}
	return b.String()
}

// plainLongest finds the piece and its sight from their definitions.
func plainLongest(m []api.Mark, s string, at int) (api.Found, api.Errno) {
	f := api.Found{At: at, Sight: len(s) - at + 1}
	for k := len(s) - at; k >= 1; k-- {
		if f.Long == 0 && winner(m, s[at:at+k]) >= 0 {
			f.Mark, f.Long = winner(m, s[at:at+k]), k
		}
		on := strings.ContainsFunc(letters, func(c rune) bool { return setOf(m, s[at:at+k]+string(c)) != "" })
		if !on {
			f.Sight = k
		}
	}
	if f.Long == 0 {
		return f, api.ErrNone
	}
	return f, api.OK
}

// P2.5, P2.6: pieces and tokens.
func TestRandomSplit(t *testing.T) {
	eachMarks(t, 400, func(r *rand.Rand, m []api.Mark) bool {
		s := randomText(r, 8)
		var pieces []api.Found
		var tokens []api.Token
		at, end, err := 0, 0, api.OK
		for at < len(s) && err == api.OK {
			var want api.Found
			want, err = plainLongest(m, s, at)
			got, gotErr := lex.Longest(m, s, at)
			if !same(t, s, []any{got, gotErr}, []any{want, err}) {
				return false
			}
			pieces = append(pieces, want)
			if kind := m[want.Mark].Kind; kind != "" && err == api.OK {
				tokens = append(tokens, api.Token{Kind: kind, Lead: s[end:at], Text: s[at:][:want.Long]})
				end = at + want.Long
			}
			at += want.Long
		}
		tail := s[end:]
		if err != api.OK {
			pieces, tokens, tail = nil, nil, ""
		} else {
			at = 0
		}
		p, where, e := lex.Pieces(m, s)
		if !same(t, s, []any{p, where, e}, []any{pieces, at, err}) {
			return false
		}
		k, rest, where, e := lex.Split(m, s)
		return same(t, s, []any{k, rest, where, e}, []any{tokens, tail, at, err})
	})
}

// P2.5: a piece is sure as soon as its sight is known, and not earlier.
func TestRandomSight(t *testing.T) {
	eachMarks(t, 300, func(r *rand.Rand, m []api.Mark) bool {
		s := randomText(r, 8)
		if s == "" {
			return true
		}
		f, err := lex.Longest(m, s, 0)
		if f.Sight > len(s) {
			return same(t, s, f.Sight, len(s)+1)
		}
		g, gotErr := lex.Longest(m, s[:f.Sight]+randomText(r, 8), 0)
		if !same(t, s, []any{g, gotErr}, []any{f, err}) {
			return false
		}
		longer := ""
		for _, c := range letters {
			longer += setOf(m, s[:f.Sight-1]+string(c))
		}
		return f.Sight == 1 || same(t, s, longer != "", true)
	})
}

// plainAgain finds what is kept from the definitions, in the old text where that can be.
func plainAgain(m []api.Mark, s string, e api.Edit) api.Resplit {
	text := s[:e.At] + e.New + s[e.At+e.Old:]
	old, _, _ := lex.Pieces(m, s)
	now, _, _ := lex.Pieces(m, text)
	oldTokens, _, _, _ := lex.Split(m, s)
	var r api.Resplit
	r.Tokens, r.Tail, _, _ = lex.Split(m, text)
	begins := func(pieces []api.Found, s string, at int) bool {
		return at == len(s) || slices.ContainsFunc(pieces, func(f api.Found) bool { return f.At == at })
	}
	far := slices.IndexFunc(old, func(f api.Found) bool { return f.At+f.Sight > e.At })
	if far < 0 {
		far = len(old)
	}
	if far > 0 {
		r.From = old[far-1].At + old[far-1].Long
	}
	end := 0
	for i, token := range oldTokens {
		end += len(token.Lead) + len(token.Text)
		if end <= r.From {
			r.Ahead = i + 1
		}
	}
	shift := len(text) - len(s)
	r.To = max(r.From, e.At+len(e.New))
	for !begins(now, text, r.To) || !begins(old, s, r.To-shift) {
		r.To++
	}
	for _, f := range now {
		if r.From <= f.At && f.At < r.To {
			r.Found++
		}
	}
	starts := func(tokens []api.Token) (list []int) {
		at := 0
		for _, token := range tokens {
			list = append(list, at)
			at += len(token.Lead) + len(token.Text)
		}
		return list
	}
	for _, at := range starts(r.Tokens) {
		if at >= r.To && slices.Contains(starts(oldTokens), at-shift) {
			r.Behind++
		}
	}
	return r
}

// randomEdit is an edit of a text after which it can be split, if one is found soon.
func randomEdit(r *rand.Rand, m []api.Mark, s string) (api.Edit, bool) {
	for range 5 {
		e := api.Edit{At: r.IntN(len(s) + 1), New: randomText(r, 3)}
		e.Old = r.IntN(min(3, len(s)-e.At) + 1)
		if _, _, err := lex.Pieces(m, s[:e.At]+e.New+s[e.At+e.Old:]); err == api.OK {
			return e, true
		}
	}
	return api.Edit{}, false
}

// eachEdit calls test with many marks, texts that can be split, and edits of them.
func eachEdit(t *testing.T, count int, test func(m []api.Mark, s string, e api.Edit) bool) {
	t.Helper()
	done := 0
	eachMarks(t, count, func(r *rand.Rand, m []api.Mark) bool {
		for range 20 {
			s := randomText(r, 12)
			if _, _, err := lex.Pieces(m, s); err != api.OK {
				continue
			}
			if e, ok := randomEdit(r, m, s); ok {
				done++
				if !test(m, s, e) {
					return false
				}
			}
		}
		return true
	})
	same(t, "many edits", done > count, true)
}

// P2.7: what is kept.
func TestRandomAgain(t *testing.T) {
	eachEdit(t, 1000, func(m []api.Mark, s string, e api.Edit) bool {
		old, tail, _, _ := lex.Split(m, s)
		r, at, err := lex.Again(m, old, tail, e)
		return same(t, fmt.Sprint(s, e), []any{r, at, err}, []any{plainAgain(m, s, e), 0, api.OK})
	})
}

// P2.7: what follows for the tokens that are kept.
func TestKeptTokens(t *testing.T) {
	eachEdit(t, 300, func(m []api.Mark, s string, e api.Edit) bool {
		old, tail, _, _ := lex.Split(m, s)
		r, _, _ := lex.Again(m, old, tail, e)
		if !same(t, s, r.Tokens[:r.Ahead], old[:r.Ahead]) {
			return false
		}
		if !same(t, s, r.Tokens[len(r.Tokens)-r.Behind:], old[len(old)-r.Behind:]) {
			return false
		}
		return r.Behind == 0 || same(t, s, r.Tail, tail)
	})
}

// P2.8: what stands between two tokens.
func TestRandomBetween(t *testing.T) {
	eachMarks(t, 300, func(r *rand.Rand, m []api.Mark) bool {
		m = append(m, mark("", one(' ')), mark("", one('\n')))[r.IntN(3):]
		if len(m) == 0 {
			return true
		}
		a, b := randomText(r, 3), randomText(r, 3)
		want, ok := "", false
		for _, x := range []string{"\n", " ", ""} {
			k, tail, _, err := lex.Split(m, a+x+b)
			if err == api.OK && tail == "" && len(k) == 2 && k[0].Lead == "" && k[0].Text == a && k[1].Lead == x && k[1].Text == b {
				want, ok = x, true
			}
		}
		err := api.OK
		for _, x := range []string{a, b} {
			k, tail, _, e := lex.Split(m, x)
			if e != api.OK || tail != "" || len(k) != 1 || k[0].Lead != "" {
				want, ok, err = "", false, api.ErrForm
			}
		}
		s, is, e := lex.Between(m, a, b)
		return same(t, fmt.Sprint(a, " ", b), []any{s, is, e}, []any{want, ok, err})
	})
}

// A mark that is shadowed can be left out: pieces stay as they are.
func TestShadowedLeftOut(t *testing.T) {
	eachMarks(t, 200, func(r *rand.Rand, m []api.Mark) bool {
		l, _ := lex.Shadowed(m)
		if len(l) == 0 {
			return true
		}
		fewer := slices.Delete(slices.Clone(m), l[0], l[0]+1)
		s := randomText(r, 10)
		a, _, at, err := lex.Split(m, s)
		b, _, at2, err2 := lex.Split(fewer, s)
		return same(t, s, []any{a, at, err}, []any{b, at2, err2})
	})
}
