package tree_test

import (
	"fmt"
	"reflect"
	"strings"
	"testing"

	"hedgelayer/api"
	"hedgelayer/tree"
)

// P4.6: the text of a tree.
func TestDump(t *testing.T) {
	tests := []struct {
		x    api.Tree
		want string
	}{
		{blank, "a\"\"\"\""}, {node(0), "(0)"}, {node(99, node(10), blank), "(99 (10) a\"\"\"\")"}, {mixed(), mixedText},
		{leaf("num_1", " ", "12"), "num_1\" \"\"12\""}, {leaf("a", "\"\\", "\x00\x1f ~\x7f\x80\xff\xab"), "a\"\\22\\5c\"\"\\00\\1f ~\\7f\\80\\ff\\ab\""}, {leaf("a", "\n", "é"), "a\"\\0a\"\"\\c3\\a9\""},
	}
	for _, x := range tests {
		s, err := tree.Dump(x.x)
		is(t, []any{s, err}, []any{x.want, api.OK})
		y, at, err := tree.Read(x.want)
		is(t, []any{x.want, at, err, reflect.DeepEqual(x.x, y)}, []any{x.want, 0, api.OK, true})
	}
}

// P4.6: the bound of both directions.
func TestTextBound(t *testing.T) {
	for _, x := range []api.Tree{leaf("a", "", bytes(api.MaxText-5)), node(0, append(times(3_331, leaf("a", "", "")), leaf("a", bytes(5), ""))...), leaf("a", "x", strings.Repeat("\n", 6_664)+"yz")} {
		s, err := tree.Dump(x)
		is(t, []any{len(s), err}, []any{api.MaxText, api.OK})
		y, at, err := tree.Read(s)
		is(t, []any{at, err, reflect.DeepEqual(x, y)}, []any{0, api.OK, true})
		_, at, err = tree.Read(s + "x")
		is(t, []any{at, err}, []any{0, api.ErrLarge})
	}
	for _, x := range []api.Tree{leaf("a", "", bytes(api.MaxText-4)), leaf("a", strings.Repeat("\n", 7_000), ""), node(0, times(api.MaxNodes-1, node(99))...)} {
		s, err := tree.Dump(x)
		is(t, []any{s, err}, []any{"", api.ErrLarge})
	}
	_, at, err := tree.Read(strings.Repeat("?", api.MaxText))
	is(t, []any{at, err}, []any{0, api.ErrSyntax})
	_, at, err = tree.Read(strings.Repeat("?", api.MaxText+1))
	is(t, []any{at, err}, []any{0, api.ErrLarge})
}

// P4.6: the least offsets at which no Dump goes on.
func TestReadSyntax(t *testing.T) {
	tests := []struct {
		text string
		at   int
	}{
		{"", 0}, {" ", 0}, {")", 0}, {"_", 0}, {"1", 0}, {"A", 0}, {"\"", 0}, {"\n", 0}, {"\xff", 0},
		{"a", 1}, {"a ", 1}, {"a\"", 2}, {"a\"\"", 3}, {"a\"\" \"\"", 3}, {"a\"\"x", 3}, {"a\"\"\"", 4}, {"a\"\"\"\"\"", 5}, {"a\"\"\"\" ", 5}, {"a\"\"\"\")", 5}, {"a\"\"\"\"\n", 5}, {"a-", 1}, {"aB", 1}, {"a\"\n\"\"\"", 2}, {"a\"\"\"\x7f\"", 4},
		{"(", 1}, {"()", 1}, {"( 0)", 1}, {"(-1)", 1}, {"(a)", 1}, {"(0", 2}, {"(00)", 2}, {"(01)", 2}, {"(0a", 2}, {"(0\"", 2}, {"(0 ", 3}, {"(0 )", 3}, {"(0  (0))", 3}, {"(0 0)", 3}, {"(0(0))", 2}, {"(0)(0)", 3}, {"(0) ", 3}, {"(0))", 3}, {"(0 (1)", 6},
		{"(123456789", 10}, {"(1234567890)", 10}, {"(0 (1234567890", 13},
		{"(0 a\"\"\"\"a\"\"\"\")", 8}, {"(0 a\"\"\"\" ", 9}, {"(0 a\"\"\"\"  ", 9},
		{"a\"\\", 3}, {"a\"\\\"", 3}, {"a\"\\41\"", 3}, {"a\"\\20\"", 4}, {"a\"\\2", 4}, {"a\"\\0A\"", 4}, {"a\"\\A0\"", 3}, {"a\"\\7e\"", 4}, {"a\"\\5d", 4},
		{"(100 ?", 5}, {"(100 A\"\"\"\")", 5},
	}
	for _, x := range tests {
		y, at, err := tree.Read(x.text)
		is(t, []any{x.text, y, at, err}, []any{x.text, api.Tree{}, x.at, api.ErrSyntax})
	}
}

// P4.6: what is a Dump, of a tree that is wrong.
func TestReadWrongTree(t *testing.T) {
	tests := []struct {
		text string
		want api.Errno
	}{
		{"(100)", api.ErrKind}, {"(999999999)", api.ErrKind}, {"(0 (99) (100))", api.ErrKind},
		{strings.Repeat("a", 41) + "\"\"\"\"", api.ErrName}, {"(0 " + strings.Repeat("a", 1_000) + "\"\"\"\")", api.ErrName}, {"(0 " + strings.Repeat("a", 41) + "\"\"\"\" (100))", api.ErrName},
		{strings.Repeat("(0 ", 400) + "(0)" + strings.Repeat(")", 400), api.ErrLarge}, {strings.Repeat("(0 ", 4_990) + "(100)" + strings.Repeat(")", 4_990), api.ErrLarge},
		{strings.Repeat("(0 ", 399) + "(0)" + strings.Repeat(")", 399), api.OK}, {strings.Repeat("a", 40) + "\"\"\"\"", api.OK},
	}
	for _, x := range tests {
		y, at, err := tree.Read(x.text)
		is(t, []any{at, err}, []any{0, x.want})
		if err != api.OK {
			is(t, y, api.Tree{})
		}
	}
}

// P4.6: which digits stand for bytes, all of them tried.
func TestReadDigits(t *testing.T) {
	hidden := map[string]byte{}
	for c := range 256 {
		if c < 32 || c > 126 || c == '"' || c == '\\' {
			hidden[fmt.Sprintf("%02x", c)] = byte(c)
		}
	}
	begin := map[string]bool{}
	for digits := range hidden {
		begin[digits[:1]] = true
	}
	for c := range 1 << 16 {
		digits := string([]byte{byte(c >> 8), byte(c)})
		x, at, err := tree.Read("a\"\\" + digits + "\"\"\"")
		switch b, ok := hidden[digits]; {
		case ok && (err != api.OK || at != 0 || x.Token.Lead != string([]byte{b})):
			t.Errorf("%q: %v %v %v", digits, x, at, err)
		case !ok && begin[digits[:1]] && (err != api.ErrSyntax || at != 4):
			t.Errorf("%q: %v %v", digits, at, err)
		case !begin[digits[:1]] && (err != api.ErrSyntax || at != 3):
			t.Errorf("%q: %v %v", digits, at, err)
		}
	}
}

// P4.6: which bytes stand in a quote as they are.
func TestReadBytes(t *testing.T) {
	for c := range 256 {
		s := string([]byte{byte(c)})
		x, at, err := tree.Read("a\"\"\"" + s + "\"")
		switch {
		case c == '"' || c == '\\':
			is(t, []any{s, at, err}, []any{s, 5, api.ErrSyntax})
		case c >= 32 && c <= 126:
			is(t, []any{s, x.Token.Text, err}, []any{s, s, api.OK})
		default:
			is(t, []any{s, at, err}, []any{s, 4, api.ErrSyntax})
		}
	}
}
