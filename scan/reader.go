package scan

import (
	"strings"
)

// hexDigits are the digits of bytes that are not written as they are.
const hexDigits = "0123456789abcdef"

// Reader reads a text from the offset At on. A form that does not come leaves At at the first byte with which none of them goes on (at the length of the text, if it is only too short).
type Reader struct {
	Text string
	At   int
}

// Take goes on if a byte comes.
func (r *Reader) Take(c byte) bool {
	return r.takeIf(func(x byte) bool { return x == c })
}

// takeIf goes on if a byte comes for which fits is true.
func (r *Reader) takeIf(fits func(c byte) bool) bool {
	if r.At >= len(r.Text) || !fits(r.Text[r.At]) {
		return false
	}
	r.At++
	return true
}

// Name reads small letters, digits and _, any number of them, the first one a letter.
func (r *Reader) Name() (string, bool) {
	begin := r.At
	if !r.takeIf(isLetter) {
		return "", false
	}
	for r.takeIf(isNameByte) {
	}
	return r.Text[begin:r.At], true
}

// Number reads a number that is not below 0, with at most so many digits (18 at the most).
func (r *Reader) Number(digits int) (int, bool) {
	begin := r.At
	for r.At-begin < digits && r.takeIf(isDigit) {
		if r.Text[begin] == '0' {
			break
		}
	}
	return Number(r.Text[begin:r.At], digits)
}

// Quote reads the quote of a string.
func (r *Reader) Quote() (string, bool) {
	if !r.Take('"') {
		return "", false
	}
	var b strings.Builder
	for !r.Take('"') {
		c, ok := r.quoted()
		if !ok {
			return "", false
		}
		b.WriteByte(c)
	}
	return b.String(), true
}

// quoted reads a byte of a string that is quoted.
func (r *Reader) quoted() (byte, bool) {
	if r.Take('\\') {
		return r.hidden()
	}
	if !r.takeIf(isOpen) {
		return 0, false
	}
	return r.Text[r.At-1], true
}

// hidden reads the digits of a byte that is not written as it is.
func (r *Reader) hidden() (byte, bool) {
	var high, low int
	first := r.takeIf(func(c byte) bool {
		high = strings.IndexByte(hexDigits, c)
		return high >= 0 && beginsHidden(high)
	})
	if !first {
		return 0, false
	}
	second := r.takeIf(func(c byte) bool {
		low = strings.IndexByte(hexDigits, c)
		return low >= 0 && !isOpen(byte(high<<4|low))
	})
	return byte(high<<4 | low), second
}

// beginsHidden reports whether a digit is the first one of a byte that is not written as it is.
func beginsHidden(high int) bool {
	for low := range len(hexDigits) {
		if !isOpen(byte(high<<4 | low)) {
			return true
		}
	}
	return false
}

// WriteQuote writes the quote of a string.
func WriteQuote(b *strings.Builder, s string) {
	b.WriteByte('"')
	for i := range len(s) {
		if isOpen(s[i]) {
			b.WriteByte(s[i])
			continue
		}
		b.WriteByte('\\')
		b.WriteByte(hexDigits[s[i]>>4])
		b.WriteByte(hexDigits[s[i]&15])
	}
	b.WriteByte('"')
}

// isOpen reports whether a byte of a string is written in its quote as it is.
func isOpen(c byte) bool { return c >= 32 && c <= 126 && c != '"' && c != '\\' }
