// Package scan has the small forms of strings that several chapters read: names, numbers, lines, words and quotes.
package scan

import (
	"slices"
	"strings"

	"hedgelayer/api"
)

// IsName reports whether a string is a name.
func IsName(s string) bool {
	if len(s) < 1 || len(s) > api.MaxName || !isLetter(s[0]) {
		return false
	}
	for i := range len(s) {
		if !isNameByte(s[i]) {
			return false
		}
	}
	return true
}

// Number reads a number with at most so many digits (18 at the most); false if the string is none.
func Number(s string, digits int) (int, bool) {
	bare, negative := strings.CutPrefix(s, "-")
	if len(bare) < 1 || len(bare) > digits || bare[0] == '0' && s != "0" {
		return 0, false
	}
	n := 0
	for i := range len(bare) {
		if !isDigit(bare[i]) {
			return 0, false
		}
		n = n*10 + int(bare[i]-'0')
	}
	if negative {
		n = -n
	}
	return n, true
}

// Lines are the lines of a text, and whether the last one is ended by a line feed, too.
func Lines(text string) ([]string, bool) {
	if text == "" {
		return nil, true
	}
	bare, ended := strings.CutSuffix(text, "\n")
	return strings.Split(bare, "\n"), ended
}

// Words are the words of a line, single blanks being between them; false if one of them is empty.
func Words(line string) ([]string, bool) {
	words := strings.Split(line, " ")
	if slices.Contains(words, "") {
		return nil, false
	}
	return words, true
}

func isLetter(c byte) bool { return c >= 'a' && c <= 'z' }

func isDigit(c byte) bool { return c >= '0' && c <= '9' }

func isNameByte(c byte) bool { return isLetter(c) || isDigit(c) || c == '_' }
