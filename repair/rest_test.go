package repair_test

import (
	"testing"

	"hedgelayer/api"
	"hedgelayer/repair"
)

// P9.3: the shortest rest, and of several the least one.
func TestFinish(t *testing.T) {
	tests := []struct {
		grammar, word, rest string
		want                api.Errno
	}{
		{sumsText, "num plus", "num", api.OK},
		{sumsText, "num", "", api.OK},
		{sumsText, "", "num", api.OK},
		{sumsText, "num num", "", api.ErrRule},
		{sumsText, "plus", "", api.ErrRule},
		{sumsText, "num plus plus num", "", api.ErrRule},
		{"tokens a b\nstart s\ns = a s b\ns =\n", "a a b", "b", api.OK},
		{"tokens a b\nstart s\ns = a s b\ns =\n", "a a b b b", "", api.ErrRule},
		{"tokens a b\nstart s\ns = a s b\ns =\n", "a a b a", "", api.ErrRule},
		{"tokens a b c\nstart s\ns = a x\nx = c c\nx = b c\nx = c b\n", "a", "b c", api.OK},
		{"tokens a b c\nstart s\ns = a x\nx = c c\nx = b c\nx = c b\n", "a c", "b", api.OK},
		{"tokens a b c\nstart s\ns = a b b\ns = a c\ns = a a a\n", "a", "c", api.OK},
		{"tokens a ab b\nstart s\ns = b ab a\ns = b a b\n", "b", "a b", api.OK}, // kind by kind
		{"tokens a\nstart s\ns = n s a\ns = a\nn =\n", "a a", "", api.OK},
		{"tokens a b\nstart s\ns = a\ns = v b\nv = v\n", "b", "", api.ErrRule}, // no word begins with barren symbols
	}
	for _, x := range tests {
		rest, err := repair.Finish(read(t, x.grammar), split(x.word))
		is(t, []any{x, rest, err}, []any{x, split(x.rest), x.want})
	}
}

// P9.3: the word with the fewest tokens, and of several the least one.
func TestHoles(t *testing.T) {
	tests := []struct {
		grammar, word, filled string
		more                  int
		want                  api.Errno
	}{
		{sumsText, "plus plus", "num plus num plus num", 3, api.OK},
		{sumsText, "num num", "num plus num", 1, api.OK},
		{sumsText, "num plus num", "num plus num", 0, api.OK},
		{sumsText, "", "num", 1, api.OK},
		{"tokens a b c\nstart s\ns = a b c\n", "a c", "a b c", 1, api.OK},
		{"tokens a b c\nstart s\ns = a b c\n", "c a", "", 0, api.ErrRule},
		{"tokens a b c\nstart s\ns = a b c\n", "b b", "", 0, api.ErrRule},
		{"tokens a b c\nstart s\ns = c b\ns = a b\ns = b c\ns = b a\n", "b", "a b", 1, api.OK},
		{"tokens a b c\nstart s\ns = a b c\ns = b c\n", "c", "b c", 1, api.OK},
		{"tokens a b c\nstart s\ns = s s\ns = b a\ns = b c\n", "a", "b a", 1, api.OK},
		{"tokens a b c\nstart s\ns = s s\ns = b a\ns = b c\n", "b b", "b a b a", 2, api.OK},
		{"tokens a b c\nstart s\ns = s s\ns = b a\ns = b c\n", "c b", "b c b a", 2, api.OK},
		{"tokens a ab b\nstart s\ns = b ab a\ns = b a b\n", "b", "b a b", 2, api.OK}, // kind by kind
		{"tokens a\nstart s\ns =\n", "", "", 0, api.OK},
		{"tokens a\nstart s\ns =\n", "a", "", 0, api.ErrRule},
	}
	for _, x := range tests {
		filled, more, err := repair.Holes(read(t, x.grammar), split(x.word))
		is(t, []any{x, filled, more, err}, []any{x, split(x.filled), x.more, x.want})
	}
}
