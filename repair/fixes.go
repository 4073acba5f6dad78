package repair

import (
	"cmp"
	"slices"

	"hedgelayer/api"
	"hedgelayer/gram"
)

// mostFixes are how many fixes a list can have.
const mostFixes = 2 * api.MaxRepair

// CheckFixes says what is wrong with fixes of a word.
func CheckFixes(g api.Grammar, word []string, l []api.Fix) api.Errno {
	if err := checkWord(g, word); err != api.OK {
		return err
	}
	if len(l) > mostFixes {
		return api.ErrLarge
	}
	for i, f := range l {
		if err := checkFix(g, word, f); err != api.OK {
			return err
		}
		if i == 0 {
			continue
		}
		if err := checkNext(l[i-1], f); err != api.OK {
			return err
		}
	}
	return api.OK
}

// checkWord checks a grammar and a word that is repaired.
func checkWord(g api.Grammar, word []string) api.Errno {
	if err := gram.Check(g); err != api.OK {
		return err
	}
	if len(word) > api.MaxRepair {
		return api.ErrLarge
	}
	for _, kind := range word {
		if !slices.Contains(g.Kinds, kind) {
			return api.ErrNone
		}
	}
	return api.OK
}

// checkFix checks one fix without those beside it.
func checkFix(g api.Grammar, word []string, f api.Fix) api.Errno {
	places := len(word)
	if f.What == api.FixInsert {
		places++ // the end
	}
	switch {
	case !isWhat(f.What):
		return api.ErrKind
	case f.At < 0 || f.At >= places:
		return api.ErrArg
	case f.What == api.FixDelete && f.Kind != "":
		return api.ErrForm
	case f.What != api.FixDelete && !slices.Contains(g.Kinds, f.Kind):
		return api.ErrNone
	case f.What == api.FixReplace && f.Kind == word[f.At]:
		return api.ErrTwice
	}
	return api.OK
}

func isWhat(what int) bool {
	return what == api.FixInsert || what == api.FixDelete || what == api.FixReplace
}

// checkNext checks whether a fix can come behind another one.
func checkNext(before, f api.Fix) api.Errno {
	order := cmp.Or(cmp.Compare(before.At, f.At), cmp.Compare(before.What, f.What))
	switch {
	case order > 0 || order == 0 && f.What != api.FixInsert:
		return api.ErrOrder
	case before.At == f.At && before.What == api.FixDelete:
		return api.ErrConflict
	}
	return api.OK
}

// Apply makes fixes.
func Apply(g api.Grammar, word []string, l []api.Fix) ([]string, api.Errno) {
	if err := CheckFixes(g, word, l); err != api.OK {
		return nil, err
	}
	var fixed []string
	done := 0 // the tokens ahead of this one
	for _, f := range l {
		fixed = append(fixed, word[done:f.At]...)
		done = f.At
		if f.What != api.FixDelete {
			fixed = append(fixed, f.Kind)
		}
		if f.What != api.FixInsert {
			done++
		}
	}
	return append(fixed, word[done:]...), api.OK
}

// Cost is what fixes cost.
func Cost(l []api.Fix, p api.Prices) (int, api.Errno) {
	if len(l) > mostFixes {
		return 0, api.ErrLarge
	}
	for _, f := range l {
		if !isWhat(f.What) {
			return 0, api.ErrKind
		}
	}
	if err := checkPrices(p); err != api.OK {
		return 0, err
	}
	cost := 0
	for _, f := range l {
		cost += priceOf(f.What, p)
	}
	return cost, api.OK
}

func checkPrices(p api.Prices) api.Errno {
	for _, price := range []int{p.Insert, p.Delete, p.Replace} {
		if price < 1 || price > api.MaxPrice {
			return api.ErrArg
		}
	}
	return api.OK
}

func priceOf(what int, p api.Prices) int {
	switch what {
	case api.FixInsert:
		return p.Insert
	case api.FixDelete:
		return p.Delete
	}
	return p.Replace
}
