package edit_test

import (
	"slices"
	"testing"

	"hedgelayer/api"
	"hedgelayer/edit"
)

// P6.2: the change back, and where each byte was.
func TestInverse(t *testing.T) {
	tests := []struct {
		s, l, back string
		origin     []int
	}{
		{"", "", "", nil}, {"abc", "", "", []int{0, 1, 2}},
		{"abc", "1,2,y", "1,1,bc", []int{0, -1}},
		{"abc", "0,0,xy", "0,2,", []int{-1, -1, 0, 1, 2}},
		{"abc", "0,3,", "0,0,abc", nil},
		{"abc", "3,0,x", "3,1,", []int{0, 1, 2, -1}},
		{"abcde", "0,1, 2,1,xyz 4,1,u", "0,0,a 1,3,c 5,1,e", []int{1, -1, -1, -1, 3, -1}},
		{"abc", "1,1,b", "1,1,b", []int{0, -1, 2}},
	}
	for _, x := range tests {
		back, err := edit.Inverse(x.s, edits(x.l))
		origin, err2 := edit.Origin(len(x.s), edits(x.l))
		is(t, []any{x, words(back), origin, err, err2}, []any{x, x.back, x.origin, api.OK, api.OK})
	}
}

// P6.3: two changes as one.
func TestThen(t *testing.T) {
	tests := []struct {
		n          int
		a, b, want string
	}{
		{3, "", "", ""}, {3, "1,1,x", "", "1,1,x"}, {3, "", "1,1,x", "1,1,x"}, {0, "0,0,ab", "0,2,", ""},
		{3, "1,0,x", "1,2,yz", "1,1,yz"},     // what is put in and taken away again leaves nothing behind
		{3, "1,0,x", "1,1,", ""},             // not even an edit
		{3, "1,0,x", "1,1,x", "1,0,x"},       // another x
		{3, "1,0,xyz", "2,1,u", "1,0,xuz"},   // within what was put in
		{3, "1,0,xy", "1,0,u", "1,0,uxy"},    // ahead of it
		{3, "1,0,xy", "3,0,u", "1,0,xyu"},    // behind it
		{3, "1,1,", "1,0,b", "1,1,b"},        // a byte that is taken away does not come back
		{5, "1,1,x 3,1,y", "2,1,", "1,3,xy"}, // no byte that is kept is left between two edits
		{5, "1,1, 3,1,", "1,1,", "1,3,"},
		{5, "1,1, 3,1,", "0,0,x 1,0,y 2,0,z 3,0,u", "0,0,x 1,1,y 3,1,z 5,0,u"},
		{5, "0,5,abc", "1,1,", "0,5,ac"},
		{5, "2,0,xyz", "1,2,u 4,2,v", "1,2,uyv"},
		{4, "0,0,x 4,0,y", "0,6,", "0,4,"},
	}
	for _, x := range tests {
		l, err := edit.Then(x.n, edits(x.a), edits(x.b))
		f, err2 := edit.Fold(x.n, [][]api.Edit{nil, edits(x.a), nil, edits(x.b), nil})
		is(t, []any{x, words(l), words(f), err, err2}, []any{x, x.want, x.want, api.OK, api.OK})
	}
}

// P6.3: the second change is one of the text after the first one.
func TestThenChecks(t *testing.T) {
	for b, want := range map[string]api.Errno{"5,0,y": api.OK, "6,0,y": api.ErrArg, "0,5,": api.OK, "0,6,": api.ErrArg, "5,0,": api.ErrForm} {
		_, err := edit.Then(3, edits("1,0,xx"), edits(b))
		_, err2 := edit.Fold(3, [][]api.Edit{edits("1,0,x"), edits("0,0,x"), edits(b)})
		is(t, []any{b, err, err2}, []any{b, want, want})
	}
	_, err := edit.Then(3, edits("0,2,"), edits("2,0,x"))
	is(t, err, api.ErrArg)
	_, err = edit.Then(api.MaxText, edits("0,2,"), edits("0,0,xy"))
	is(t, err, api.OK)
	_, err = edit.Then(api.MaxText, edits("0,2,"), edits("0,0,xyz"))
	is(t, err, api.ErrLarge)
}

// P6.3: a list of changes as one; without any n alone is checked.
func TestFold(t *testing.T) {
	for n, want := range map[int]api.Errno{-1: api.ErrArg, 0: api.OK, api.MaxText: api.OK, api.MaxText + 1: api.ErrArg} {
		l, err := edit.Fold(n, nil)
		is(t, []any{n, len(l), err}, []any{n, 0, want})
		l, err = edit.Fold(n, [][]api.Edit{})
		is(t, []any{n, len(l), err}, []any{n, 0, want})
	}
	l, err := edit.Fold(5, [][]api.Edit{edits("1,2,xy 4,1,")})
	is(t, []any{words(l), err}, []any{"1,2,xy 4,1,", api.OK})
	l, err = edit.Fold(0, [][]api.Edit{edits("0,0,ab"), edits("1,1,c"), edits("0,0,d")})
	is(t, []any{words(l), err}, []any{"0,0,dac", api.OK})
	_, err = edit.Fold(1, [][]api.Edit{edits("1,0,a"), edits("2,0,a"), edits("4,0,a"), edits("0,0,")})
	is(t, err, api.ErrArg)
	_, err = edit.Fold(5, [][]api.Edit{edits("1,1, 2,1,")})
	is(t, err, api.ErrOrder)
}

// P6.4: the example of the chapter.
func TestPastExample(t *testing.T) {
	a, b := edits("1,0,x"), edits("1,2,y")
	for _, x := range []struct {
		l    []api.Edit
		want string
	}{{a, "axbc"}, {b, "ay"}} {
		s, _ := edit.Apply("abc", x.l)
		is(t, s, x.want)
	}
	p, q, err := edit.Past(3, a, b)
	is(t, []any{words(p), words(q), err}, []any{"2,2,y", "1,0,x", api.OK})
	l, err := edit.Both(3, a, b)
	is(t, []any{words(l), err}, []any{"1,2,xy", api.OK})
}

// P6.4: two changes past one another, and both.
func TestPast(t *testing.T) {
	tests := []struct {
		n                int
		a, b, p, q, both string
	}{
		{3, "", "", "", "", ""},
		{3, "1,1,x", "", "", "1,1,x", "1,1,x"},
		{3, "", "1,1,x", "1,1,x", "", "1,1,x"},
		{3, "1,0,x", "1,0,y", "2,0,y", "1,0,x", "1,0,xy"}, // a stands ahead
		{3, "1,0,y", "1,0,x", "2,0,x", "1,0,y", "1,0,yx"},
		{3, "1,0,x", "1,0,x", "2,0,x", "1,0,x", "1,0,xx"}, // both of the same
		{3, "0,3,", "0,3,", "", "", "0,3,"},               // what both take away goes once
		{3, "0,2,", "1,2,", "0,1,", "0,1,", "0,3,"},
		{3, "0,3,x", "1,1,y", "1,0,y", "0,1,x 2,1,", "0,3,xy"}, // what the other one put in is kept
		{3, "1,1,y", "0,3,x", "0,1,x 2,1,", "1,0,y", "0,3,xy"},
		{5, "1,3,x", "2,0,y", "2,0,y", "1,1,x 3,2,", "1,3,xy"}, // an offset within what goes
		{5, "1,2,x", "3,1,y", "2,1,y", "1,2,x", "1,3,xy"},      // side by side
		{5, "3,1,y", "1,2,x", "1,2,x", "2,1,y", "1,3,xy"},
		{5, "1,2,x", "3,0,y", "2,0,y", "1,2,x", "1,2,xy"},
		{5, "1,2,x", "1,0,y", "2,0,y", "1,0,x 2,2,", "1,2,xy"},
		{5, "1,0,y", "1,2,x", "2,2,x", "1,0,y", "1,2,yx"},
		{5, "0,1,x 4,1,z", "2,1,y", "2,1,y", "0,1,x 4,1,z", "0,1,x 2,1,y 4,1,z"},
		{6, "0,2,p 3,2,q", "1,3,r 5,1,s", "1,1,r 3,1,s", "0,1,p 2,1,q", "0,6,prqs"},
		{2, "2,0,x", "2,0,y", "3,0,y", "2,0,x", "2,0,xy"}, // at the end
		{0, "0,0,x", "0,0,y", "1,0,y", "0,0,x", "0,0,xy"},
	}
	for _, x := range tests {
		p, q, err := edit.Past(x.n, edits(x.a), edits(x.b))
		l, err2 := edit.Both(x.n, edits(x.a), edits(x.b))
		is(t, []any{x, words(p), words(q), words(l), err, err2}, []any{x, x.p, x.q, x.both, api.OK, api.OK})
	}
}

// P6.4: edits touch if they have an offset in common, the one behind their bytes, too.
func TestClash(t *testing.T) {
	tests := []struct {
		a, b string
		want bool
	}{
		{"", "", false}, {"1,1,x", "", false}, {"", "1,1,x", false},
		{"1,1,x", "1,1,x", true}, {"1,0,x", "1,0,y", true}, {"1,0,x", "2,0,y", false}, {"1,1,x", "2,0,y", true}, {"1,1,x", "2,1,", true}, {"1,1,x", "3,1,", false}, {"0,9,", "4,0,x", true},
		{"0,0,xxxx", "1,0,y", false}, {"0,1, 3,1, 6,1,", "2,0,x 5,0,x 8,0,x", false}, {"0,1, 3,1, 6,1,", "2,0,x 5,0,x 7,0,x", true}, {"0,1, 3,1, 6,1,", "1,0,x", true}, {"8,1,", "0,1, 2,1, 4,1, 6,1,", false}, {"8,1,", "0,1, 2,1, 4,1, 6,2,", true},
		{"2,4,", "1,0,x 7,0,x", false}, {"2,4,", "0,2,x", true}, {"2,4,", "6,2,x", true},
	}
	for _, x := range tests {
		got, err := edit.Clash(9, edits(x.a), edits(x.b))
		back, err2 := edit.Clash(9, edits(x.b), edits(x.a))
		is(t, []any{x, got, back, err, err2}, []any{x, x.want, x.want, api.OK, api.OK})
	}
}

// P6.5: where places are after a change.
func TestMoved(t *testing.T) {
	tests := []struct {
		n             int
		l             string
		ahead, behind []int
	}{
		{0, "", []int{0}, []int{0}},
		{2, "", []int{0, 1, 2}, []int{0, 1, 2}},
		{2, "0,0,xy", []int{0, 3, 4}, []int{2, 3, 4}},
		{2, "1,0,xy", []int{0, 1, 4}, []int{0, 3, 4}},
		{2, "2,0,xy", []int{0, 1, 2}, []int{0, 1, 4}},
		{4, "1,2,y", []int{0, 1, 1, 1, 3}, []int{0, 2, 2, 2, 3}},
		{4, "1,2,", []int{0, 1, 1, 1, 2}, []int{0, 1, 1, 1, 2}},
		{4, "0,4,xyz", []int{0, 0, 0, 0, 0}, []int{3, 3, 3, 3, 3}},
		{4, "0,1,xy 2,1, 4,0,z", []int{0, 0, 3, 3, 4}, []int{2, 2, 3, 3, 5}},
	}
	for _, x := range tests {
		for at := range x.n + 1 {
			ahead, err := edit.Moved(x.n, edits(x.l), at, false)
			behind, err2 := edit.Moved(x.n, edits(x.l), at, true)
			is(t, []any{x, at, ahead, behind, err, err2}, []any{x, at, x.ahead[at], x.behind[at], api.OK, api.OK})
		}
		for _, at := range []int{-1, x.n + 1, -1 << 63, 1<<63 - 1} {
			got, err := edit.Moved(x.n, edits(x.l), at, true)
			is(t, []any{at, got, err}, []any{at, 0, api.ErrArg})
		}
	}
	_, err := edit.Moved(3, edits("1,0,"), 4, false)
	is(t, err, api.ErrForm)
}

// P6.5: one edit for all.
func TestHull(t *testing.T) {
	tests := []struct{ s, l, want string }{
		{"abcde", "0,1, 3,1,z", "0,4,bcz"}, {"abcde", "1,1,x", "1,1,x"}, {"abcde", "1,1,b", "1,1,b"}, {"abcde", "2,0,x", "2,0,x"},
		{"abcde", "1,0,x 4,0,y", "1,3,xbcdy"}, {"abcde", "1,0,x 3,1,", "1,3,xbc"}, {"abcde", "5,0,x", "5,0,x"}, {"abcde", "0,5,", "0,5,"}, {"abcde", "0,1, 2,1, 4,1,", "0,5,bd"}, {"", "0,0,x", "0,0,x"},
		{"aaaa", "1,1, 3,1,aa", "1,3,aaa"},
	}
	for _, x := range tests {
		e, ok, err := edit.Hull(x.s, edits(x.l))
		is(t, []any{x, words([]api.Edit{e}), ok, err}, []any{x, x.want, true, api.OK})
	}
	for _, s := range []string{"", "abc"} {
		e, ok, err := edit.Hull(s, nil)
		is(t, []any{e == api.Edit{}, ok, err}, []any{true, false, api.OK})
	}
}

// P6.6: edits lose what they do not change, first at the beginning and then at the end.
func TestSqueezed(t *testing.T) {
	tests := []struct{ s, l, want string }{
		{"hello", "0,5,help", "3,2,p"}, {"hello", "", ""}, {"hello", "0,5,hello", ""}, {"hello", "0,5,", "0,5,"}, {"hello", "2,0,l", "2,0,l"},
		{"hello", "0,5,jello", "0,1,j"}, {"hello", "0,5,hullo", "1,1,u"}, {"hello", "0,1,h 2,1,k 4,1,o", "2,1,k"},
		{"aaa", "0,3,a", "1,2,"}, {"aaa", "0,1,aaa", "1,0,aa"}, {"aba", "0,3,aa", "1,1,"}, {"aba", "0,3,ababa", "3,0,ba"}, {"ababa", "0,5,aba", "3,2,"},
		{"abcab", "0,5,ab", "2,3,"}, {"abxab", "0,5,abab", "2,1,"}, {"abc", "0,1,xa 2,1,cx", "0,0,x 3,0,x"}, {"abc", "1,1,bx", "2,0,x"}, {"abc", "1,1,xb", "1,0,x"},
		{"\xc3\xa9", "0,2,\xc3\xa8", "1,1,\xa8"},
	}
	for _, x := range tests {
		l, err := edit.Squeezed(x.s, edits(x.l))
		is(t, []any{x, words(l), err}, []any{x, x.want, api.OK})
	}
}

// P6.6: the most bytes are kept, of several ways the first ones of the old text, and of the new one.
func TestDiff(t *testing.T) {
	tests := []struct{ a, b, want string }{
		{"", "", ""}, {"abc", "abc", ""}, {"abc", "", "0,3,"}, {"", "abc", "0,0,abc"}, {"abcd", "abxd", "2,1,x"}, {"abc", "xyz", "0,3,xyz"},
		{"ab", "ba", "0,0,b 1,1,"}, // the a is kept rather than the b
		{"aa", "a", "1,1,"}, {"a", "aa", "1,0,a"}, {"aba", "a", "1,2,"}, {"a", "aba", "1,0,ba"},
		{"abcabba", "cbabac", "0,1,c 2,1, 5,1, 7,0,c"}, {"xaxbx", "ab", "0,1, 2,1, 4,1,"}, {"\xff\xfe", "\xfe\xff", "0,0,\xfe 1,1,"}, {"\n", "\n\n", "1,0,\n"},
	}
	for _, x := range tests {
		l, err := edit.Diff(x.a, x.b)
		is(t, []any{x, words(l), err}, []any{x, x.want, api.OK})
	}
}

// P6.7: the lines of edits.
func TestText(t *testing.T) {
	l := []api.Edit{{At: 2, Old: 1, New: "x"}, {At: 0, Old: 20_000, New: "a \"\\\n\x7f\x00é"}, {At: 20_000}, {}}
	const text = "2 1 \"x\"\n0 20000 \"a \\22\\5c\\0a\\7f\\00\\c3\\a9\"\n20000 0 \"\"\n0 0 \"\"\n"
	s, err := edit.Text(l)
	is(t, []any{s, err}, []any{text, api.OK})
	got, line, err := edit.Read(text)
	is(t, []any{slices.Equal(got, l), line, err}, []any{true, 0, api.OK})
	s, err = edit.Text(nil)
	is(t, []any{s, err}, []any{"", api.OK})
	got, line, err = edit.Read("")
	is(t, []any{len(got), line, err}, []any{0, 0, api.OK})
}

// P6.7: numbers that no text has.
func TestTextArg(t *testing.T) {
	for _, e := range []api.Edit{{At: -1, Old: 1}, {At: 20_001, Old: 1}, {At: 1, Old: -1}, {At: 1, Old: 20_001}, {At: 1 << 62, Old: 1}, {At: 1, Old: -1 << 63}} {
		for _, l := range [][]api.Edit{{e}, {{At: 1, Old: 1}, e}, {{New: letters(api.MaxText)}, e}} {
			s, err := edit.Text(l)
			is(t, []any{e, s, err}, []any{e, "", api.ErrArg})
		}
	}
	for _, text := range []string{"-1 1 \"\"\n", "20001 1 \"\"\n", "1 -1 \"\"\n", "1 20001 \"\"\n", "999999999999999 1 \"\"\n", "1 -999999999999999 \"\"\n", "0 0 \"\"\n1 20001 \"\"\n"} {
		l, line, err := edit.Read(text)
		is(t, []any{text, len(l), line, err}, []any{text, 0, 0, api.ErrArg})
	}
}

// P6.7: the first line that is none.
func TestReadSyntax(t *testing.T) {
	const right = "2 1 \"x\"\n"
	for _, text := range []string{
		"\n", " \n", "2\n", "2 \n", "2 1\n", "2 1 \n", "2 1 x\n", "2 1 \"x\n", "2 1 \"x\" \n", "2 1 \"x\"x\n", "2 1 \"x\" \"y\"\n", " 2 1 \"x\"\n", "2  1 \"x\"\n", "2 1  \"x\"\n", "2\t1 \"x\"\n", "\"x\"\n", "1 \"x\"\n", "2 \"x\"\n",
		"02 1 \"x\"\n", "2 01 \"x\"\n", "+2 1 \"x\"\n", "-0 1 \"x\"\n", "2 -0 \"x\"\n", "a 1 \"x\"\n", "2 b \"x\"\n", "1000000000000000 1 \"x\"\n", "2 -1000000000000000 \"x\"\n", "2 1 \"x\"\r\n",
		"2 1 \"\\\"\n", "2 1 \"\\41\"\n", "2 1 \"\\0A\"\n", "2 1 \"é\"\n", "2 1 \"\x7f\"\n", "2 1 \"\t\"\n", "2 1 \"\\\\\"\n", "2 1 \"a\nb\"\n", "x",
	} {
		for i, ahead := range []string{"", right, right + "-1 20001 \"\"\n"} {
			for _, rest := range []string{"", "x\n"} {
				l, line, err := edit.Read(ahead + text + rest)
				is(t, []any{ahead + text + rest, len(l), line, err}, []any{ahead + text + rest, 0, i, api.ErrSyntax})
			}
		}
	}
	for i, text := range []string{"2 1 \"x\"", right + "2 1 \"x\"", right + right + "2 1 \"x\""} {
		_, line, err := edit.Read(text)
		is(t, []any{text, line, err}, []any{text, i, api.ErrSyntax})
	}
}
