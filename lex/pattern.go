package lex

import (
	"slices"

	"hedgelayer/api"
)

// CheckPat says what is wrong with a pattern.
func CheckPat(p api.Pat) api.Errno {
	if err := checkDeep(p, 1); err != api.OK {
		return err
	}
	if size(p) > api.MaxPats {
		return api.ErrLarge
	}
	return api.OK
}

// checkDeep checks a pattern of some depth and all in it, but not how many they are.
func checkDeep(p api.Pat, depth int) api.Errno {
	switch {
	case depth > api.MaxPatDepth:
		return api.ErrLarge
	case p.Op < api.PatBytes || p.Op > api.PatStar:
		return api.ErrKind
	case !hasForm(p):
		return api.ErrForm
	case p.Low < 0 || p.Low > 255 || p.High < p.Low || p.High > 255:
		return api.ErrArg
	}
	for _, arg := range p.Args {
		if err := checkDeep(arg, depth+1); err != api.OK {
			return err
		}
	}
	return api.OK
}

// hasForm reports whether a pattern has the fields that its Op uses, and no others.
func hasForm(p api.Pat) bool {
	switch p.Op {
	case api.PatBytes:
		return len(p.Args) == 0
	case api.PatThen:
		return len(p.Args) != 1 && p.Low == 0 && p.High == 0
	case api.PatOr:
		return len(p.Args) >= 2 && p.Low == 0 && p.High == 0
	default:
		return len(p.Args) == 1 && p.Low == 0 && p.High == 0
	}
}

// size is how many patterns a pattern has, itself and all in it.
func size(p api.Pat) int {
	n := 1
	for _, arg := range p.Args {
		n += size(arg)
	}
	return n
}

// fitsEmpty reports whether a pattern fits the empty string.
func fitsEmpty(p api.Pat) bool {
	switch p.Op {
	case api.PatBytes:
		return false
	case api.PatThen:
		return !slices.ContainsFunc(p.Args, func(arg api.Pat) bool { return !fitsEmpty(arg) })
	case api.PatOr:
		return slices.ContainsFunc(p.Args, fitsEmpty)
	default:
		return true
	}
}

// Fits reports whether a pattern fits a string.
func Fits(p api.Pat, s string) (bool, api.Errno) {
	if err := CheckPat(p); err != api.OK {
		return false, err
	}
	if len(s) > api.MaxText {
		return false, api.ErrLarge
	}
	// The sets are found as they are needed: for a pattern alone there is no limit of their number.
	x := newMachine([]api.Pat{p})
	alive := x.newSet()
	open, fits := x.behind(alive, true)
	for i := range len(s) {
		alive.meet(open, x.match[x.class[s[i]]])
		open, fits = x.behind(alive, false)
	}
	return len(fits) > 0, api.OK
}

// Differ is the shortest string that just one of two patterns fits.
func Differ(p, q api.Pat) (string, bool, api.Errno) {
	for _, x := range []api.Pat{p, q} {
		if err := CheckPat(x); err != api.OK {
			return "", false, err
		}
	}
	x := newMachine([]api.Pat{p, q})
	if !x.explore(api.MaxSets) {
		return "", false, api.ErrFull
	}
	s, ok := x.least(func(fits []int) bool { return len(fits) == 1 })
	return s, ok, api.OK
}
