package lex

import (
	"strings"

	"hedgelayer/api"
	"hedgelayer/scan"
)

// noKind stands in a text for the Kind of blanks.
const noKind = "-"

// hexDigits are the digits of bytes that are not written as they are.
const hexDigits = "0123456789abcdef"

// PatText is a pattern as text.
func PatText(p api.Pat) (string, api.Errno) {
	if err := CheckPat(p); err != api.OK {
		return "", err
	}
	var b strings.Builder
	writePat(&b, p)
	if b.Len() > api.MaxText {
		return "", api.ErrLarge
	}
	return b.String(), api.OK
}

// Text writes marks.
func Text(m []api.Mark) (string, api.Errno) {
	if err := Check(m); err != api.OK {
		return "", err
	}
	var b strings.Builder
	for _, mark := range m {
		if mark.Kind == "" {
			b.WriteString(noKind)
		}
		b.WriteString(mark.Kind)
		b.WriteString(" ")
		writePat(&b, mark.Pat)
		b.WriteString("\n")
	}
	if b.Len() > api.MaxText {
		return "", api.ErrLarge
	}
	return b.String(), api.OK
}

func writePat(b *strings.Builder, p api.Pat) {
	switch p.Op {
	case api.PatBytes:
		writeBytes(b, byte(p.Low), byte(p.High))
	case api.PatThen:
		if len(p.Args) == 0 {
			b.WriteString("()")
		}
		for _, arg := range p.Args {
			writeArg(b, arg, isGroup(arg))
		}
	case api.PatOr:
		for i, arg := range p.Args {
			if i > 0 {
				b.WriteString("|")
			}
			writeArg(b, arg, arg.Op == api.PatOr)
		}
	default:
		writeArg(b, p.Args[0], isGroup(p.Args[0]))
		b.WriteString("*")
	}
}

// isGroup reports whether the text of a pattern falls apart, so that it needs parentheses among others.
func isGroup(p api.Pat) bool {
	return p.Op == api.PatOr || p.Op == api.PatThen && len(p.Args) > 0
}

func writeArg(b *strings.Builder, arg api.Pat, inside bool) {
	if inside {
		b.WriteString("(")
	}
	writePat(b, arg)
	if inside {
		b.WriteString(")")
	}
}

func writeBytes(b *strings.Builder, low, high byte) {
	if low == high {
		writeByte(b, low)
		return
	}
	b.WriteString("[")
	writeByte(b, low)
	b.WriteString("-")
	writeByte(b, high)
	b.WriteString("]")
}

func writeByte(b *strings.Builder, c byte) {
	if isOpen(c) {
		b.WriteByte(c)
		return
	}
	b.WriteByte('\\')
	b.WriteByte(hexDigits[c>>4])
	b.WriteByte(hexDigits[c&15])
}

// isOpen reports whether a byte is written as it is.
func isOpen(c byte) bool {
	return c >= 33 && c <= 126 && strings.IndexByte(`\|*()[]-`, c) < 0
}

// Read reads marks.
func Read(text string) ([]api.Mark, int, api.Errno) {
	if len(text) > api.MaxText {
		return nil, 0, api.ErrLarge
	}
	lines, ended := scan.Lines(text)
	m := make([]api.Mark, len(lines))
	for i, line := range lines {
		open := i == len(lines)-1 && !ended
		mark, ok := readMark(line)
		if open || !ok {
			return nil, i, api.ErrSyntax
		}
		m[i] = mark
	}
	if err := Check(m); err != api.OK {
		return nil, 0, err
	}
	return m, 0, api.OK
}

func readMark(line string) (api.Mark, bool) {
	kind, rest, ok := strings.Cut(line, " ")
	if !ok || kind == "" {
		return api.Mark{}, false
	}
	if kind == noKind {
		kind = ""
	}
	p, ok := readPat(rest)
	return api.Mark{Kind: kind, Pat: p}, ok
}
