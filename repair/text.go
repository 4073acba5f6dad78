package repair

import (
	"strconv"
	"strings"

	"hedgelayer/api"
	"hedgelayer/scan"
)

// numberDigits is how many digits a number of a fix has at the most.
const numberDigits = 9

// Text writes fixes.
func Text(l []api.Fix) (string, api.Errno) {
	if err := checkAlone(l); err != api.OK {
		return "", err
	}
	var b strings.Builder
	for _, f := range l {
		writeFix(&b, f)
	}
	return b.String(), api.OK
}

// checkAlone checks what can be said of fixes without a word.
func checkAlone(l []api.Fix) api.Errno {
	if len(l) > mostFixes {
		return api.ErrLarge
	}
	for _, f := range l {
		switch {
		case !isWhat(f.What):
			return api.ErrKind
		case f.At < 0 || f.At > api.MaxRepair:
			return api.ErrArg
		case f.What == api.FixDelete && f.Kind != "":
			return api.ErrForm
		case f.What != api.FixDelete && !scan.IsName(f.Kind):
			return api.ErrName
		}
	}
	return api.OK
}

func writeFix(b *strings.Builder, f api.Fix) {
	b.WriteString(strconv.Itoa(f.At))
	switch f.What {
	case api.FixInsert:
		b.WriteString(" + ")
	case api.FixDelete:
		b.WriteString(" -")
	case api.FixReplace:
		b.WriteString(" = ")
	}
	b.WriteString(f.Kind)
	b.WriteString("\n")
}

// Read reads fixes.
func Read(text string) ([]api.Fix, int, api.Errno) {
	if len(text) > api.MaxText {
		return nil, 0, api.ErrLarge
	}
	lines, ended := scan.Lines(text)
	l := make([]api.Fix, len(lines))
	for i, line := range lines {
		f, ok := readFix(line)
		if !ok || i == len(lines)-1 && !ended {
			return nil, i, api.ErrSyntax
		}
		l[i] = f
	}
	if err := checkAlone(l); err != api.OK {
		return nil, 0, err
	}
	return l, 0, api.OK
}

// readFix reads the line of a fix.
func readFix(line string) (api.Fix, bool) {
	words, ok := scan.Words(line)
	if !ok || len(words) < 2 || len(words) > 3 {
		return api.Fix{}, false
	}
	at, ok := scan.Number(words[0], numberDigits)
	if !ok {
		return api.Fix{}, false
	}
	kinds := words[2:]
	switch {
	case words[1] == "+" && len(kinds) == 1:
		return api.Fix{At: at, What: api.FixInsert, Kind: kinds[0]}, true
	case words[1] == "-" && len(kinds) == 0:
		return api.Fix{At: at, What: api.FixDelete}, true
	case words[1] == "=" && len(kinds) == 1:
		return api.Fix{At: at, What: api.FixReplace, Kind: kinds[0]}, true
	}
	return api.Fix{}, false
}
