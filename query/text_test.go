package query_test

import (
	"fmt"
	"reflect"
	"slices"
	"strings"
	"testing"

	"hedgelayer/api"
	"hedgelayer/query"
)

// either is a QueryEither.
func either(p, q api.Query) api.Query {
	return api.Query{Op: api.QueryEither, Args: []api.Query{p, q}}
}

func not(q api.Query) api.Query { return api.Query{Op: api.QueryNot, Args: []api.Query{q}} }

// leaves is a QueryLeaf.
func leaves(kind, lead, text string) api.Query {
	return api.Query{Op: api.QueryLeaf, Kind: kind, Lead: lead, Text: text}
}

// named is a query with a name.
func named(name string, q api.Query) api.Query {
	q.Bind = name
	return q
}

// P8.7: queries and their texts.
func TestText(t *testing.T) {
	long := strings.Repeat("a", 40)
	for want, q := range map[string]api.Query{
		"_": anyPart(), "x@_": named("x", anyPart()), long + "@_": named(long, anyPart()), "a": leaves("a", "", ""), long: leaves(long, "", ""), "a@a": named("a", leaves("a", "", "")), "x_9@z_0": named("x_9", leaves("z_0", "", "")),
		`a"1"`: leaves("a", "", "1"), `a"1"," "`: leaves("a", " ", "1"), `a""," "`: leaves("a", " ", ""), `x@a"\22\5c","\00\ff~"`: named("x", leaves("a", "\x00\xff~", `"\`)), `a"@_,"`: leaves("a", "", "@_,"),
		"(0)": nodes(0), "(99)": nodes(99), "x@(7)": named("x", nodes(7)), "(10 _)": nodes(10, anyPart()), `(1 x@_ a"," (2) a)`: nodes(1, named("x", anyPart()), leaves("a", "", ","), nodes(2), leaves("a", "", "")),
		"{_ | a}": either(anyPart(), leaves("a", "", "")), `{a"1","x" | (0)}`: either(leaves("a", "x", "1"), nodes(0)), "{{_ | _} | {_ | _}}": either(either(anyPart(), anyPart()), either(anyPart(), anyPart())), "!_": not(anyPart()), "^_": deep(anyPart()), "!^!x@_": not(deep(not(named("x", anyPart())))), "(0 !a {^b | !(1)})": nodes(0, not(leaves("a", "", "")), either(deep(leaves("b", "", "")), not(nodes(1)))),
	} {
		s, err := query.Text(q)
		is(t, []any{s, err}, []any{want, api.OK})
		got, at, err := query.Read(want)
		is(t, []any{want, at, err, reflect.DeepEqual(got, q)}, []any{want, 0, api.OK, true})
	}
	for _, q := range []api.Query{{}, {Op: api.QueryAny, Kind: "a"}, leaves("A", "", ""), nodes(100), chained(30, anyPart())} {
		s, err := query.Text(q)
		is(t, []any{q, s, err}, []any{q, "", query.CheckQuery(q)})
		is(t, []any{q, err != api.OK}, []any{q, true})
	}
}

// P8.7: the least offsets at which no text of a query goes on.
func TestReadSyntax(t *testing.T) {
	for _, x := range []struct {
		text string
		at   int
	}{
		{"", 0}, {" ", 0}, {"0", 0}, {"A", 0}, {"@", 0}, {"\"", 0}, {")", 0}, {"}", 0}, {"|", 0}, {"\n", 0}, {"\xff", 0},
		{"__", 1}, {"_a", 1}, {"_@_", 1}, {"_ ", 1}, {"_\"\"", 1}, {"a ", 1}, {"a-", 1}, {"aB", 1}, {"a)", 1}, {"a,", 1}, {"a\n", 1},
		// Names.
		{"a@", 2}, {"a@@", 2}, {"a@ _", 2}, {"a@!_", 2}, {"a@^_", 2}, {"a@{_ | _}", 2}, {"a@b@_", 3}, {"a@_@_", 3}, {"a@0", 2}, {"@_", 0}, {"a @_", 1}, {"(0)@_", 3}, {`a"1"@_`, 4}, {`a"1","2"@_`, 8}, {"!a@", 3}, {"a@_b", 3},
		// Quotes, of which those that say nothing are not written.
		{`a"`, 2}, {`a"1`, 3}, {`a""`, 3}, {`a"" `, 3}, {`a"")`, 3}, {`(0 a"")`, 6}, {`a"""`, 3}, {`a"",`, 4}, {`a"",1`, 4}, {`a"","`, 5}, {`a"",""`, 5}, {`a"1",`, 5}, {`a"1","`, 6}, {`a"1",""`, 6}, {`a"1",,`, 5}, {`a"1", "x"`, 5}, {`a"1" ,"x"`, 4}, {`a"1","x`, 7}, {`a"1","x",`, 8}, {`a"1""x"`, 4}, {`a,"x"`, 1}, {`a "1"`, 1}, {`(0 a"1","")`, 9}, {"a\"\n\"", 2}, {`a"\`, 3}, {`a"\2`, 4}, {`a"\20`, 4}, {`a"\41`, 3}, {`a"1","\A`, 7}, {`a"1","\0A`, 8},
		// Nodes.
		{"(", 1}, {"()", 1}, {"( 0)", 1}, {"(-1)", 1}, {"(a)", 1}, {"(0", 2}, {"(00)", 2}, {"(01)", 2}, {"(0_", 2}, {"(0 ", 3}, {"(0 )", 3}, {"(0  _)", 3}, {"(0 _ )", 5}, {"(0 _", 4}, {"(0 _}", 4}, {"(0 _|", 4}, {"(0(1))", 2}, {"(0)(1)", 3}, {"(0))", 3}, {"(0) ", 3}, {"(0 (1)", 6}, {"(0 (1 a@)", 8}, {"(123456789", 10}, {"(1234567890)", 10}, {"(0 x@(1234567890", 15},
		// Others.
		{"{", 1}, {"{}", 1}, {"{ _", 1}, {"{_", 2}, {"{_}", 2}, {"{_|", 2}, {"{_ ", 3}, {"{_ _", 3}, {"{_ |", 4}, {"{_ |_", 4}, {"{_ | ", 5}, {"{_ | }", 5}, {"{_ | _", 6}, {"{_ | _ | _}", 6}, {"{_ | _)", 6}, {"{_ | _}}", 7}, {"{_  | _}", 3}, {"x{", 1}, {"{a", 2}, {"{(0) | !}", 8},
		{"!", 1}, {"! _", 1}, {"!)", 1}, {"!!", 2}, {"^", 1}, {"^ ", 1}, {"^!^", 3}, {"!_!", 2}, {"!_ ", 2}, {"_!", 1}, {"!0", 1},
		{"(100 ?", 5}, {"x@(100 A)", 7},
	} {
		q, at, err := query.Read(x.text)
		is(t, []any{x.text, q, at, err}, []any{x.text, api.Query{}, x.at, api.ErrSyntax})
	}
}

// P8.7: CheckQuery's errors come behind ErrSyntax, for texts of queries of any size and depth.
func TestReadWrongQuery(t *testing.T) {
	name := strings.Repeat("a", 41)
	for text, want := range map[string]api.Errno{
		"(100)": api.ErrArg, "(999999999)": api.ErrArg, "(0 (99) (100))": api.ErrArg, name: api.ErrName, name + "@_": api.ErrName, "(0 " + name[:40] + "@" + name + ")": api.ErrName, "(0 " + name + "@(100))": api.ErrName, "(0 (100) " + name + ")": api.ErrArg,
		strings.Repeat("!", 30) + "_": api.ErrLarge, strings.Repeat("!", 29) + "_": api.OK, strings.Repeat("^", 19_999) + "_": api.ErrLarge, strings.Repeat("(0 ", 4_999) + "_" + strings.Repeat(")", 4_999): api.ErrLarge, strings.Repeat("{", 3_000) + "_" + strings.Repeat(" | _}", 3_000): api.ErrLarge,
		"(0" + strings.Repeat(" _", 199) + ")": api.OK, "(0" + strings.Repeat(" _", 200) + ")": api.ErrLarge, "(0" + strings.Repeat(" _", 9_998) + ")": api.ErrLarge, "(0" + strings.Repeat(" _", 199) + " (100))": api.ErrLarge,
	} {
		q, at, err := query.Read(text)
		is(t, []any{text, at, err}, []any{text, 0, want})
		if err != api.OK {
			is(t, q, api.Query{})
		}
	}
}

// P8.7: the bound of both directions.
func TestTextBound(t *testing.T) {
	x := strings.Repeat("x", api.MaxText)
	for _, q := range []api.Query{
		leaves("a", "", x[3:]), leaves("a", x[7:], "1"), leaves("a", x[6:], ""), named("x", leaves("a", "", x[5:])), leaves("a", "xx", strings.Repeat("\n", 6_664)), nodes(0, append(slices.Repeat([]api.Query{leaves("a", "", x[:96])}, 198), leaves("a", "", x[:193]))...),
		not(deep(leaves("a", "", x[5:]))), either(leaves("a", "", x[9:]), anyPart()),
	} {
		s, err := query.Text(q)
		is(t, []any{len(s), err}, []any{api.MaxText, api.OK})
		got, at, err := query.Read(s)
		is(t, []any{at, err, reflect.DeepEqual(got, q)}, []any{0, api.OK, true})
		_, at, err = query.Read(s + "x")
		is(t, []any{at, err}, []any{0, api.ErrLarge})
	}
	huge := strings.Repeat("\n", 200_000)
	for i, q := range []api.Query{leaves("a", "", x[2:]), leaves("a", x[5:], ""), leaves("a", "", huge), leaves("a", huge, huge), nodes(0, slices.Repeat([]api.Query{leaves("a", "", x[:100])}, 199)...), nodes(0, slices.Repeat([]api.Query{leaves("a", huge, huge)}, 199)...)} {
		s, err := query.Text(q)
		is(t, []any{i, s, err}, []any{i, "", api.ErrLarge})
	}
	_, at, err := query.Read(strings.Repeat("?", api.MaxText))
	is(t, []any{at, err}, []any{0, api.ErrSyntax})
	_, at, err = query.Read(strings.Repeat("?", api.MaxText+1))
	is(t, []any{at, err}, []any{0, api.ErrLarge})
	_, at, err = query.Read(strings.Repeat("!", api.MaxText))
	is(t, []any{at, err}, []any{api.MaxText, api.ErrSyntax})
}

// P8.7: each byte behind the beginnings of some texts.
func TestReadBytes(t *testing.T) {
	const small, digit = "abcdefghijklmnopqrstuvwxyz", "0123456789"
	for begin, can := range map[string]string{
		"": small + "_({!^", "a": small + digit + "_@\"", "a@": small + "_(", "a@b": small + digit + "_\"", "(": digit, "(0": " )", "(1": digit + " )", "(0 ": small + "_({!^", "{": small + "_({!^", "{_": " ", "{_ ": "|", "{_ |": " ", "{_ | _": "}", "!": small + "_({!^", "^": small + "_({!^", `a""`: ",", `a"1"`: ",", `a"1",`: "\"", "_": "", "(0)": "", `a"1","1"`: "", "(0 a": small + digit + "_@\" )", `(0 a"1"`: ", )", `(0 a"1","1"`: " )",
	} {
		for c := range 256 {
			text := begin + string([]byte{byte(c)})
			_, at, err := query.Read(text)
			goesOn := err == api.OK || at == len(text)
			is(t, fmt.Sprintf("%q %v", text, goesOn), fmt.Sprintf("%q %v", text, strings.IndexByte(can, byte(c)) >= 0))
		}
	}
}
