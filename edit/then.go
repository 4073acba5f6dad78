package edit

import (
	"slices"

	"hedgelayer/api"
)

// Then is two changes as one.
func Then(n int, a, b []api.Edit) ([]api.Edit, api.Errno) {
	return Fold(n, [][]api.Edit{a, b})
}

// Fold is a list of changes as one.
func Fold(n int, l [][]api.Edit) ([]api.Edit, api.Errno) {
	if err := checkFold(n, l); err != api.OK || len(l) == 0 {
		return nil, err
	}
	all := slices.Clone(l[0])
	for _, next := range l[1:] {
		all = then(n, all, next)
		if len(all) > api.MaxEdits {
			return nil, api.ErrLarge
		}
	}
	return all, api.OK
}

// checkFold says what is wrong with changes that follow one another.
func checkFold(n int, l [][]api.Edit) api.Errno {
	if err := Check(n, nil); err != api.OK {
		return err
	}
	for _, next := range l {
		if err := Check(n, next); err != api.OK {
			return err
		}
		n = length(n, next)
	}
	return api.OK
}

// then is two changes as one, the first one of a text with n bytes. It takes the memory of a.
// Only the edits of a that b comes near to are made anew, so that a long fold of small changes is quick.
func then(n int, a, b []api.Edit) []api.Edit {
	if len(b) == 0 {
		return a
	}
	from, to, shift := near(a, b)
	return slices.Replace(a, from, to, merged(n, a[from:to], goings(b, -shift))...)
}

// near says from which edit of a to ahead of which one b can touch what they put in, and how many bytes those ahead of them add.
func near(a, b []api.Edit) (from, to, shift int) {
	for from < len(a) && end(a[from])+growth(a[from])+shift < b[0].At {
		shift += growth(a[from])
		from++
	}
	to = from
	by := shift
	for to < len(a) && a[to].At+by <= end(b[len(b)-1]) {
		by += growth(a[to])
		to++
	}
	return from, to, shift
}

// merged is a change of a text with n bytes, and another one behind it, as one; of the latter there are its pieces in the text between both.
func merged(n int, a []api.Edit, b []piece) []api.Edit {
	var d draft
	for x := range steps(length(n, a), comings(a), b) {
		d.drop(x.a.begun.Old)
		d.put(x.b.begun.New)
		switch {
		case x.a.inside && x.b.inside:
			// What a has put in b takes away, so that neither text has it.
		case x.a.inside:
			from := x.at - x.a.last.at
			d.put(x.a.last.edit.New[from : from+x.long])
		case x.b.inside:
			d.drop(x.long)
		default:
			d.keep(x.long)
		}
	}
	return d.change()
}
