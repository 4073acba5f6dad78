package edit

import (
	"strconv"
	"strings"

	"hedgelayer/api"
	"hedgelayer/scan"
)

// numberDigits is how many digits a number of an edit has at the most.
const numberDigits = 15

// Text writes edits.
func Text(l []api.Edit) (string, api.Errno) {
	if err := checkNumbers(l); err != api.OK {
		return "", err
	}
	var b strings.Builder
	for _, e := range l {
		writeEdit(&b, e)
		if b.Len() > api.MaxText {
			return "", api.ErrLarge
		}
	}
	return b.String(), api.OK
}

// checkNumbers checks what can be said of edits without a text.
func checkNumbers(l []api.Edit) api.Errno {
	if len(l) > api.MaxEdits {
		return api.ErrLarge
	}
	for _, e := range l {
		if e.At < 0 || e.At > api.MaxText || e.Old < 0 || e.Old > api.MaxText {
			return api.ErrArg
		}
	}
	return api.OK
}

func writeEdit(b *strings.Builder, e api.Edit) {
	b.WriteString(strconv.Itoa(e.At))
	b.WriteString(" ")
	b.WriteString(strconv.Itoa(e.Old))
	b.WriteString(" ")
	scan.WriteQuote(b, e.New)
	b.WriteString("\n")
}

// Read reads edits.
func Read(text string) ([]api.Edit, int, api.Errno) {
	if len(text) > api.MaxText {
		return nil, 0, api.ErrLarge
	}
	lines, ended := scan.Lines(text)
	l := make([]api.Edit, len(lines))
	for i, line := range lines {
		e, ok := readEdit(line)
		if !ok || i == len(lines)-1 && !ended {
			return nil, i, api.ErrSyntax
		}
		l[i] = e
	}
	if err := checkNumbers(l); err != api.OK {
		return nil, 0, err
	}
	return l, 0, api.OK
}

// readEdit reads the line of an edit.
func readEdit(line string) (api.Edit, bool) {
	at, rest, _ := strings.Cut(line, " ")
	old, quote, _ := strings.Cut(rest, " ")
	var e api.Edit
	var ok bool
	if e.At, ok = scan.Number(at, numberDigits); !ok {
		return api.Edit{}, false
	}
	if e.Old, ok = scan.Number(old, numberDigits); !ok {
		return api.Edit{}, false
	}
	r := scan.Reader{Text: quote}
	e.New, ok = r.Quote()
	return e, ok && r.At == len(quote)
}
