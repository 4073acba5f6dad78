package lex_test

import (
	"fmt"
	"reflect"
	"strings"
	"testing"

	"hedgelayer/api"
	"hedgelayer/lex"
)

// P2.2: patterns and their texts.
func TestPatText(t *testing.T) {
	a, b, c := one('a'), one('b'), one('c')
	for want, p := range map[string]api.Pat{
		"a":              a,
		"!":              one(33),
		"~":              one(126),
		`\20`:            one(32),
		`\7f`:            one(127),
		`\00`:            one(0),
		`\0a`:            one(10),
		`\ff`:            one(255),
		`\5c`:            one('\\'),
		`\7c`:            one('|'),
		`\2a`:            one('*'),
		`\28`:            one('('),
		`\29`:            one(')'),
		`\5b`:            one('['),
		`\5d`:            one(']'),
		`\2d`:            one('-'),
		`"`:              one('"'),
		"[a-b]":          {Op: api.PatBytes, Low: 'a', High: 'b'},
		`[\00-\ff]`:      {Op: api.PatBytes, Low: 0, High: 255},
		`[!-\2d]`:        {Op: api.PatBytes, Low: '!', High: '-'},
		"()":             then(),
		"ab":             then(a, b),
		"(ab)c":          then(then(a, b), c),
		"a(bc)":          then(a, then(b, c)),
		"(a|b)c":         then(or(a, b), c),
		"()a":            then(then(), a),
		"()()":           then(then(), then()),
		"a*b*":           then(star(a), star(b)),
		"a|b":            or(a, b),
		"a|b|c":          or(a, b, c),
		"(a|b)|c":        or(or(a, b), c),
		"a|(b|c)":        or(a, or(b, c)),
		"ab|c":           or(then(a, b), c),
		"()|a":           or(then(), a),
		"a|()":           or(a, then()),
		"a*|b*":          or(star(a), star(b)),
		"a*":             star(a),
		"a**":            star(star(a)),
		"()*":            star(then()),
		"()**":           star(star(then())),
		"(ab)*":          star(then(a, b)),
		"(a|b)*":         star(or(a, b)),
		"(a|b)**":        star(star(or(a, b))),
		"[a-b]*":         star(api.Pat{Op: api.PatBytes, Low: 'a', High: 'b'}),
		"((ab)c)*":       star(then(then(a, b), c)),
		"((a|b)|c)*a":    then(star(or(or(a, b), c)), a),
		"(((a|b)c)(ab))": {},
		"((a|b)c)(ab)":   then(then(or(a, b), c), then(a, b)),
		"(a(ab|c))*|b":   or(star(then(a, or(then(a, b), c))), b),
	} {
		if p.Op == 0 {
			_, err := lex.ReadPat(want)
			is(t, err, api.ErrSyntax)
			continue
		}
		s, err := lex.PatText(p)
		is(t, []any{s, err}, []any{want, api.OK})
		q, err := lex.ReadPat(want)
		is(t, err, api.OK)
		if fmt.Sprint(q) != fmt.Sprint(p) {
			t.Errorf("%s: got %v, want %v", want, q, p)
		}
	}
}

// P2.2: the text of each byte.
func TestEachByte(t *testing.T) {
	for b := range 256 {
		want := string([]byte{byte(b)})
		if b < 33 || b > 126 || strings.Contains(`\|*()[]-`, want) {
			want = fmt.Sprintf(`\%02x`, b)
		}
		s, err := lex.PatText(one(byte(b)))
		is(t, []any{s, err}, []any{want, api.OK})
		is(t, pat(t, want), one(byte(b)))
	}
}

// notPatterns are texts of no patterns.
var notPatterns = []string{
	"", " ", "a b", "|", "a|", "|a", "a||b", "*", "*a", "|*", "a|*",
	"(", ")", "(a", "a)", "(a)", "(a)b", "(a)*", "(a*)", "(a*)*", "([a-b])", "(\\20)", "(())", "(()*)", "(())*", "()())",
	"(ab)", "(a|b)", "((ab))", "((ab))c", "((a|b))c", "((a|b))*", "((ab))*", "(ab)|c", "a|(bc)", "a|(b)", "a|(())", "(a|)", "(|a)", "(|)b",
	"[", "]", "[]", "[a]", "[a-", "[a-b", "[-]", "[a-a]", "[b-a]", "[ab]", "[a--]", "[--a]", "[a-b-c]", "[a-bc]", "[*-a]", "[(-a]", "[\\20-\\20]", "[\\ff-\\00]", "[a-\\61]", "[a-b]]",
	"-", "a-b", "\\", "\\2", "\\20\\", "\\2g", "\\g2", "\\61", "\\FF", "\\fF", "\\2D", "\\x20", "\\n", "\\\\", "\\(", "\\ 0", "\\+1", "\\7e", "\\21",
	"a\n", "\x00", "\x7f", "\x80", "é", "a\tb", "a\\20 ",
}

// P2.2: texts of no patterns.
func TestReadPatSyntax(t *testing.T) {
	for _, text := range notPatterns {
		p, err := lex.ReadPat(text)
		is(t, []any{text, p, err}, []any{text, api.Pat{}, api.ErrSyntax})
	}
}

// P2.2: CheckPat's errors come behind ErrSyntax, for texts of patterns of any depth.
func TestReadPatLarge(t *testing.T) {
	for i, x := range []struct {
		text string
		want api.Errno
	}{
		{"a" + strings.Repeat("*", 29), api.OK},
		{"a" + strings.Repeat("*", 30), api.ErrLarge},
		{"a" + strings.Repeat("*", api.MaxText-1), api.ErrLarge},
		{"a" + strings.Repeat("*", api.MaxText-2) + "|", api.ErrSyntax},
		{strings.Repeat("a", api.MaxPats-1), api.OK},
		{strings.Repeat("a", api.MaxPats), api.ErrLarge},
		{strings.Repeat("a", api.MaxText), api.ErrLarge},
		{strings.Repeat("a", api.MaxText-1) + "-", api.ErrSyntax},
		{strings.Repeat("a", api.MaxText+1), api.ErrLarge},
		{strings.Repeat("-", api.MaxText+1), api.ErrLarge},
		{strings.Repeat("(", api.MaxText), api.ErrSyntax},
		{strings.Repeat("(a|", 28) + "b" + strings.Repeat(")*", 28), api.ErrLarge},
		{strings.Repeat("(a|", 14) + "b" + strings.Repeat(")*", 14), api.OK},
		{strings.Repeat("(a|", 4_000) + "b" + strings.Repeat(")*", 4_000), api.ErrLarge},
		{strings.Repeat("(a|", 4_000) + "b" + strings.Repeat(")*", 3_999), api.ErrSyntax},
		{strings.Repeat("(a|", 3_000) + "-" + strings.Repeat(")*", 3_000), api.ErrSyntax},
	} {
		p, err := lex.ReadPat(x.text)
		is(t, []any{i, err}, []any{i, x.want})
		if err != api.OK {
			is(t, p, api.Pat{})
		}
	}
}

// P2.2: the longest text of a pattern is within MaxText.
func TestPatTextLarge(t *testing.T) {
	wide := or(times(api.MaxPats-1, api.Pat{Op: api.PatBytes, Low: 0, High: 255})...)
	s, err := lex.PatText(wide)
	is(t, []any{len(s), err}, []any{10*(api.MaxPats-1) - 1, api.OK})
	p, err := lex.ReadPat(s)
	is(t, []any{reflect.DeepEqual(p, wide), err}, []any{true, api.OK})
}

// P2.4: marks and their texts.
func TestText(t *testing.T) {
	m := []api.Mark{
		{Kind: "if", Pat: then(one('i'), one('f'))},
		{Pat: or(one(' '), one('\n'))},
		{Kind: "a_1", Pat: star(one('a'))},
		{Kind: "", Pat: one('-')},
	}
	m[2].Pat = then(m[2].Pat, one('b'))
	want := "if if\n- \\20|\\0a\na_1 a*b\n- \\2d\n"
	s, err := lex.Text(m)
	is(t, []any{s, err}, []any{want, api.OK})
	got := marks(t, want)
	is(t, fmt.Sprint(got), fmt.Sprint(m))
	is(t, fmt.Sprint(marks(t, example)[3]), fmt.Sprint(api.Mark{Pat: one(' ')}))
}

// P2.4: lines that have not their form, and their numbers.
func TestReadSyntax(t *testing.T) {
	for _, x := range []struct {
		text string
		line int
	}{
		{"\n", 0}, {"a", 0}, {"a\n", 0}, {"a \n", 0}, {"a a", 0}, {" a\n", 0}, {"  a\n", 0}, {"-\n", 0}, {"- \n", 0}, {"-a\n", 0},
		{"a  a\n", 0}, {"a a \n", 0}, {"a a b\n", 0}, {"a a\\20\r\n", 0},
		{"a a\n\n", 1}, {"a a\nb", 1}, {"a a\nb b", 1}, {"a a\nb b\nc", 2}, {"a a\nb (b)\nc c", 1},
		{"A a\nb b", 1}, {"a a*\nb", 1}, {"a a\n \n", 1},
		{"a a" + strings.Repeat("*", 40) + "\nb (b)\n", 1},
	} {
		m, line, err := lex.Read(x.text)
		is(t, []any{x.text, len(m), line, err}, []any{x.text, 0, x.line, api.ErrSyntax})
	}
	for _, text := range notPatterns {
		if strings.Contains(text, "\n") {
			continue
		}
		m, line, err := lex.Read("a a\nb " + text + "\n")
		is(t, []any{text, len(m), line, err}, []any{text, 0, 1, api.ErrSyntax})
	}
}

// P2.4: Read's other errors.
func TestReadErrors(t *testing.T) {
	for _, x := range []struct {
		text string
		want api.Errno
	}{
		{"", api.ErrNone},
		{strings.Repeat("a a\n", 61), api.ErrLarge},
		{strings.Repeat("a a\n", 60), api.OK},
		{"A a\n", api.ErrName},
		{"a a\n-- b\n", api.ErrName},
		{"--- b\n", api.ErrName},
		{"a\tb b\n", api.ErrName},
		{"\xff b\n", api.ErrName},
		{strings.Repeat("a", 41) + " b\n", api.ErrName},
		{"a a*\n", api.ErrRule},
		{"a ()\n", api.ErrRule},
		{"a a" + strings.Repeat("*", 29) + "\n", api.ErrRule},
		{"a a" + strings.Repeat("*", 30) + "\n", api.ErrLarge},
		{"a " + strings.Repeat("a", 2000) + "\n", api.ErrLarge},
		{"a " + strings.Repeat("a", 1999) + "\n", api.OK},
		{"a " + strings.Repeat("a", 1000) + "\nb " + strings.Repeat("a", 1000) + "\n", api.ErrLarge},
		{"a (a|b)*a" + strings.Repeat("(a|b)", 11) + "\n", api.ErrFull},
		{strings.Repeat("x", api.MaxText+1), api.ErrLarge},
		{"a " + strings.Repeat("(", api.MaxText), api.ErrLarge},
	} {
		m, line, err := lex.Read(x.text)
		is(t, []any{line, err}, []any{0, x.want})
		if err != api.OK {
			is(t, len(m), 0)
		}
	}
}

// P2.4: a text of marks of MaxText bytes, and one of a byte more.
func TestTextLarge(t *testing.T) {
	// The marks have long names and ranges, whose bytes are read one after the other, so that there are few sets.
	r := api.Pat{Op: api.PatBytes, Low: 0, High: 255}
	build := func(name int) []api.Mark {
		m := []api.Mark{mark(strings.Repeat("a", api.MaxName), or(times(1_938, r)...))}
		for len(m) < 14 {
			m = append(m, mark(strings.Repeat("b", api.MaxName), one('a')))
		}
		return append(m, mark(strings.Repeat("c", name), one('a')))
	}
	s, err := lex.Text(build(1))
	is(t, err, api.OK)
	rest := api.MaxText - len(s)
	if rest < 0 || rest >= api.MaxName-1 {
		t.Fatalf("%d bytes are left", rest)
	}
	s, err = lex.Text(build(1 + rest))
	is(t, []any{len(s), err}, []any{api.MaxText, api.OK})
	m, line, err := lex.Read(s)
	is(t, []any{len(m), line, err}, []any{15, 0, api.OK})
	s, err = lex.Text(build(2 + rest))
	is(t, []any{s, err}, []any{"", api.ErrLarge})
}
