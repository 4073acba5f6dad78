package edit

import (
	"strings"

	"hedgelayer/api"
)

// Squeezed takes from edits what they leave as it was.
func Squeezed(s string, l []api.Edit) ([]api.Edit, api.Errno) {
	if err := checkText(s, l); err != api.OK {
		return nil, err
	}
	var squeezed []api.Edit
	for _, e := range l {
		e = squeeze(s[e.At:end(e)], e)
		if e.Old > 0 || e.New != "" {
			squeezed = append(squeezed, e)
		}
	}
	return squeezed, api.OK
}

// squeeze takes from an edit that replaces old what it leaves as it was: first at the beginning, then at the end.
func squeeze(old string, e api.Edit) api.Edit {
	for old != "" && e.New != "" && old[0] == e.New[0] {
		old, e.New = old[1:], e.New[1:]
		e.At++
	}
	for old != "" && e.New != "" && old[len(old)-1] == e.New[len(e.New)-1] {
		old, e.New = old[:len(old)-1], e.New[:len(e.New)-1]
	}
	e.Old = len(old)
	return e
}

// Diff is the change of a text into another one that keeps the most.
func Diff(a, b string) ([]api.Edit, api.Errno) {
	if len(a) > api.MaxDiff || len(b) > api.MaxDiff {
		return nil, api.ErrLarge
	}
	most := mostKept(a, b)
	var d draft
	i, j := 0, 0
	for most[i][j] > 0 {
		// The first such byte of b leaves the most behind it: if the byte i of a cannot be kept there, it cannot be at all.
		skip := strings.IndexByte(b[j:], a[i])
		if skip < 0 || most[i+1][j+skip+1]+1 < most[i][j] {
			d.drop(1)
			i++
			continue
		}
		d.put(b[j : j+skip])
		d.keep(1)
		i++
		j += skip + 1
	}
	d.drop(len(a) - i)
	d.put(b[j:])
	return d.change(), api.OK
}

// mostKept says for each two offsets how many bytes at most can be kept behind them.
func mostKept(a, b string) [][]int {
	most := make([][]int, len(a)+1)
	most[len(a)] = make([]int, len(b)+1)
	for i := len(a) - 1; i >= 0; i-- {
		most[i] = make([]int, len(b)+1)
		for j := len(b) - 1; j >= 0; j-- {
			if a[i] == b[j] {
				most[i][j] = most[i+1][j+1] + 1
			} else {
				most[i][j] = max(most[i+1][j], most[i][j+1])
			}
		}
	}
	return most
}
