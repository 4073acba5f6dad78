package scan_test

import (
	"fmt"
	"strings"
	"testing"

	"hedgelayer/scan"
)

func is(t *testing.T, got, want any) {
	t.Helper()
	if fmt.Sprint(got) != fmt.Sprint(want) {
		t.Errorf("got %v, want %v", got, want)
	}
}

// P1.1: what a name is.
func TestIsName(t *testing.T) {
	for _, s := range []string{"a", "z", "az09_", "a_", strings.Repeat("a", 40)} {
		is(t, []any{s, scan.IsName(s)}, []any{s, true})
	}
	for _, s := range []string{"", "_", "_a", "0", "9a", "A", "aB", "a-b", "a b", "a\n", "é", "aé", "a\x00", "`", "{", "a/", "a:", strings.Repeat("a", 41)} {
		is(t, []any{s, scan.IsName(s)}, []any{s, false})
	}
}

// Z10: what a number in a string is.
func TestNumber(t *testing.T) {
	for s, want := range map[string]int{"0": 0, "7": 7, "10": 10, "-1": -1, "999": 999, "-999": -999} {
		n, ok := scan.Number(s, 3)
		is(t, []any{s, n, ok}, []any{s, want, true})
	}
	for _, s := range []string{"", "-", "-0", "00", "01", "-01", "1000", "-1000", "+1", "--1", "1-", "1a", "a", " 1", "1 ", "1\n", "١", "/", ":"} {
		n, ok := scan.Number(s, 3)
		is(t, []any{s, n, ok}, []any{s, 0, false})
	}
	n, ok := scan.Number("-999999999999999999", 18)
	is(t, []any{n, ok}, []any{-999999999999999999, true})
}

// Z9: lines end at line feeds, which do not belong to them.
func TestLines(t *testing.T) {
	tests := []struct {
		text  string
		lines []string
		ended bool
	}{
		{"", nil, true},
		{"\n", []string{""}, true},
		{"a", []string{"a"}, false},
		{"a\n", []string{"a"}, true},
		{"a\nb", []string{"a", "b"}, false},
		{"a\n\n", []string{"a", ""}, true},
		{"a\r\nb\n", []string{"a\r", "b"}, true},
	}
	for _, x := range tests {
		lines, ended := scan.Lines(x.text)
		is(t, fmt.Sprintf("%q %q %v", x.text, lines, ended), fmt.Sprintf("%q %q %v", x.text, x.lines, x.ended))
	}
}

// Z9: blanks are bytes 32 alone.
func TestWords(t *testing.T) {
	words, ok := scan.Words("a b\tc =")
	is(t, fmt.Sprintf("%q %v", words, ok), fmt.Sprintf("%q %v", []string{"a", "b\tc", "="}, true))
	for _, s := range []string{"", " ", " a", "a ", "a  b"} {
		words, ok := scan.Words(s)
		is(t, []any{s, words, ok}, []any{s, []string{}, false})
	}
}
