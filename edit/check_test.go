package edit_test

import (
	"fmt"
	"math"
	"strconv"
	"strings"
	"testing"

	"hedgelayer/api"
	"hedgelayer/edit"
)

func is(t *testing.T, got, want any) {
	t.Helper()
	if fmt.Sprint(got) != fmt.Sprint(want) {
		t.Errorf("got %.1000s, want %.1000s", fmt.Sprint(got), fmt.Sprint(want))
	}
}

// edits are made of words of the form AT,OLD,NEW; New has no blanks and commas.
func edits(text string) []api.Edit {
	var l []api.Edit
	for _, word := range strings.Fields(text) {
		parts := strings.Split(word, ",")
		at, _ := strconv.Atoi(parts[0])
		old, _ := strconv.Atoi(parts[1])
		l = append(l, api.Edit{At: at, Old: old, New: parts[2]})
	}
	return l
}

// words writes edits in the form that the function edits reads.
func words(l []api.Edit) string {
	var parts []string
	for _, e := range l {
		parts = append(parts, fmt.Sprintf("%d,%d,%s", e.At, e.Old, e.New))
	}
	return strings.Join(parts, " ")
}

// spread are n edits with a byte between each two of them; each one replaces old bytes.
func spread(n, old int, text string) []api.Edit {
	l := make([]api.Edit, n)
	for i := range l {
		l[i] = api.Edit{At: i * (old + 1), Old: old, New: text}
	}
	return l
}

func letters(n int) string { return strings.Repeat("a", n) }

// P6.1: what is wrong with a change, and in which order this is asked.
func TestCheck(t *testing.T) {
	tests := []struct {
		n    int
		l    string
		want api.Errno
	}{
		{0, "", api.OK}, {3, "", api.OK}, {3, "0,0,x", api.OK}, {3, "3,0,x", api.OK}, {3, "0,3,", api.OK}, {3, "0,3,x", api.OK},
		{0, "0,0,x", api.OK}, {3, "0,0,x 1,0,y 2,0,z 3,0,u", api.OK}, {3, "0,1, 2,1,", api.OK},
		{-1, "", api.ErrArg}, {api.MaxText, "", api.OK}, {api.MaxText + 1, "", api.ErrArg}, {math.MaxInt, "", api.ErrArg}, {math.MinInt, "", api.ErrArg},
		{3, "-1,0,x", api.ErrArg}, {3, "4,0,x", api.ErrArg}, {3, "0,4,", api.ErrArg}, {3, "0,-1,x", api.ErrArg}, {3, "3,1,", api.ErrArg}, {0, "0,1,", api.ErrArg},
		{3, "1,0,", api.ErrForm}, {3, "3,0,", api.ErrForm},
		{3, "0,1, 1,1,", api.ErrOrder}, {3, "1,0,x 1,0,y", api.ErrOrder}, {3, "2,0,x 1,0,y", api.ErrOrder}, {3, "0,2, 1,1,", api.ErrOrder}, {3, "0,1, 1,0,x", api.ErrOrder}, {3, "0,0,x 0,1,", api.ErrOrder},
		{3, "1,0,x 0,0,", api.ErrForm}, {3, "1,0,x 4,0,", api.ErrArg}, {3, "1,0, 4,0,x", api.ErrForm}, {3, "4,0, 1,0,", api.ErrArg}, {3, "1,1, 2,1, 4,0,x", api.ErrOrder}, {3, "1,1, 3,0, 3,0,x", api.ErrForm},
	}
	for _, x := range tests {
		is(t, []any{x, edit.Check(x.n, edits(x.l))}, []any{x, x.want})
	}
}

// P6.1, Z6: offsets that do not fit any text.
func TestCheckGreatNumbers(t *testing.T) {
	for _, n := range []int{math.MaxInt, math.MinInt, math.MaxInt - 1, math.MinInt + 1, 1 << 40, 1 << 32} {
		is(t, edit.Check(3, []api.Edit{{At: n, Old: 1}}), api.ErrArg)
		is(t, edit.Check(3, []api.Edit{{At: 1, Old: n}}), api.ErrArg)
		is(t, edit.Check(3, []api.Edit{{At: n, Old: n}}), api.ErrArg)
		is(t, edit.Check(n, []api.Edit{{At: 1, Old: n}}), api.ErrArg)
	}
}

// P6.1: at most MaxEdits edits, and MaxText bytes of the old and of the new text.
func TestCheckLarge(t *testing.T) {
	is(t, edit.Check(2_000, spread(api.MaxEdits, 0, "x")), api.OK)
	is(t, edit.Check(2_000, spread(api.MaxEdits+1, 0, "x")), api.ErrLarge)
	wrong := spread(api.MaxEdits+1, 0, "")
	is(t, edit.Check(2_000, wrong), api.ErrLarge)
	is(t, edit.Check(-1, wrong), api.ErrArg)
	is(t, edit.Check(api.MaxText+1, wrong), api.ErrArg)
	is(t, edit.Check(2_000, wrong[1:]), api.ErrForm)
	is(t, edit.Check(api.MaxText, edits("0,1,x")), api.OK)
	is(t, edit.Check(api.MaxText, edits("0,0,x")), api.ErrLarge)
	is(t, edit.Check(api.MaxText, edits("0,1,xy")), api.ErrLarge)
	is(t, edit.Check(api.MaxText, edits("0,0,xy 5,2,")), api.OK)
	is(t, edit.Check(api.MaxText, edits("0,0,xyz 5,2,")), api.ErrLarge)
	is(t, edit.Check(1, []api.Edit{{At: 1, New: letters(api.MaxText - 1)}}), api.OK)
	is(t, edit.Check(1, []api.Edit{{At: 1, New: letters(api.MaxText)}}), api.ErrLarge)
	is(t, edit.Check(1, []api.Edit{{At: 0, New: letters(api.MaxText)}, {At: 1}}), api.ErrForm)
	is(t, edit.Check(1, []api.Edit{{At: 0, New: letters(api.MaxText)}, {At: 0, Old: 1}}), api.ErrOrder)
}

// errors are those of all functions with changes, a being the first one and b the second one; s is a text with n bytes.
func errors(s string, n int, a, b []api.Edit) map[string]api.Errno {
	all := map[string]api.Errno{}
	_, all["Apply"] = edit.Apply(s, a)
	_, all["Length"] = edit.Length(n, a)
	_, all["Inverse"] = edit.Inverse(s, a)
	_, all["Then"] = edit.Then(n, a, b)
	_, all["Fold"] = edit.Fold(n, [][]api.Edit{a, b})
	_, _, all["Past"] = edit.Past(n, a, b)
	_, all["Both"] = edit.Both(n, a, b)
	_, all["Clash"] = edit.Clash(n, a, b)
	_, all["Moved"] = edit.Moved(n, a, 0, false)
	_, all["Origin"] = edit.Origin(n, a)
	_, all["Squeezed"] = edit.Squeezed(s, a)
	_, _, all["Hull"] = edit.Hull(s, a)
	return all
}

var twos = []string{"Then", "Fold", "Past", "Both", "Clash"}

// P6.1: all functions with changes return Check's error, of the first change before that of the second one.
func TestChecksFirst(t *testing.T) {
	right, wrongs := edits("1,1,x"), map[api.Errno][]api.Edit{api.ErrArg: edits("4,0,x"), api.ErrForm: edits("1,0,"), api.ErrOrder: edits("0,1, 1,1,"), api.ErrLarge: spread(api.MaxEdits+1, 0, "x")}
	wrongs[api.OK] = right
	for first, a := range wrongs {
		for second, b := range wrongs {
			for name, err := range errors("abc", 3, a, b) {
				want := first
				for _, two := range twos {
					if two == name && first == api.OK {
						want = second
					}
				}
				is(t, []any{name, first, second, err}, []any{name, first, second, want})
			}
		}
	}
	for _, n := range []int{-1, api.MaxText + 1, math.MaxInt, math.MinInt} {
		for name, err := range errors(letters(api.MaxText), n, wrongs[api.ErrLarge], right) {
			want := api.ErrArg
			if name == "Apply" || name == "Inverse" || name == "Squeezed" || name == "Hull" {
				want = api.ErrLarge
			}
			is(t, []any{name, n, err}, []any{name, n, want})
		}
	}
}

// P6.1: a text has at most MaxText bytes, before all else is asked.
func TestTextsLarge(t *testing.T) {
	for _, l := range []string{"", "0,0,", "-1,0,x", "5,1, 5,0,x", "0,5,"} {
		for name, err := range errors(letters(api.MaxText+1), 0, edits(l), nil) {
			if name == "Apply" || name == "Inverse" || name == "Squeezed" || name == "Hull" {
				is(t, []any{name, l, err}, []any{name, l, api.ErrLarge})
			}
		}
	}
	for name, err := range errors(letters(api.MaxText), api.MaxText, edits("5,1,b"), edits("7,1,b")) {
		is(t, []any{name, err}, []any{name, api.OK})
	}
	for name, err := range errors(letters(api.MaxText), api.MaxText, edits("5,0,b"), nil) {
		is(t, []any{name, err}, []any{name, api.ErrLarge})
	}
}

// P6.1: the text after a change, and how many bytes it has.
func TestApply(t *testing.T) {
	tests := []struct{ s, l, want string }{
		{"", "", ""}, {"abc", "", "abc"}, {"abc", "1,2,y", "ay"}, {"abc", "0,0,x", "xabc"}, {"abc", "3,0,x", "abcx"}, {"abc", "0,3,", ""}, {"", "0,0,xy", "xy"},
		{"abcde", "0,1, 2,1,xyz 4,0,u", "bxyzdue"}, {"abc", "0,0,x 1,0,y 2,0,z 3,0,u", "xaybzcu"}, {"abc", "0,1,a 2,1,c", "abc"}, {"\xff\x00\xfe", "1,1,\xc3", "\xff\xc3\xfe"},
	}
	for _, x := range tests {
		s, err := edit.Apply(x.s, edits(x.l))
		n, err2 := edit.Length(len(x.s), edits(x.l))
		is(t, []any{x, s, n, err, err2}, []any{x, x.want, len(x.want), api.OK, api.OK})
	}
}
