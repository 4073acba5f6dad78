package edit

import (
	"hedgelayer/api"
)

// Moved is where a place is after a change.
func Moved(n int, l []api.Edit, at int, behind bool) (int, api.Errno) {
	if err := Check(n, l); err != api.OK {
		return 0, err
	}
	if at < 0 || at > n {
		return 0, api.ErrArg
	}
	shift := 0
	for _, p := range comings(l) {
		if at < p.edit.At {
			break
		}
		if at <= end(p.edit) {
			return sideOf(p, behind), api.OK
		}
		shift = p.at + p.long - end(p.edit)
	}
	return at + shift, api.OK
}

// sideOf is the beginning of what an edit has put in, or its end.
func sideOf(p piece, behind bool) int {
	if behind {
		return p.at + p.long
	}
	return p.at
}

// Hull is one edit that does what a change does.
func Hull(s string, l []api.Edit) (api.Edit, bool, api.Errno) {
	if err := checkText(s, l); err != api.OK || len(l) == 0 {
		return api.Edit{}, false, err
	}
	from, to := l[0].At, end(l[len(l)-1])
	now := apply(s, l)
	return api.Edit{At: from, Old: to - from, New: now[from : len(now)-(len(s)-to)]}, true, api.OK
}
