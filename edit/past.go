package edit

import (
	"hedgelayer/api"
)

// Past are two changes past one another.
func Past(n int, a, b []api.Edit) ([]api.Edit, []api.Edit, api.Errno) {
	if err := checkTwo(n, a, b); err != api.OK {
		return nil, nil, err
	}
	var pastA, pastB draft
	for x := range steps(n, goings(a, 0), goings(b, 0)) {
		pastA.keep(len(x.a.begun.New))
		pastA.put(x.b.begun.New)
		pastB.put(x.a.begun.New)
		pastB.keep(len(x.b.begun.New))
		switch {
		case x.a.inside && x.b.inside:
			// These bytes are in neither of the texts.
		case x.a.inside:
			pastB.drop(x.long)
		case x.b.inside:
			pastA.drop(x.long)
		default:
			pastA.keep(x.long)
			pastB.keep(x.long)
		}
	}
	first, second := pastA.change(), pastB.change()
	if len(first) > api.MaxEdits || len(second) > api.MaxEdits || length(length(n, a), first) > api.MaxText {
		return nil, nil, api.ErrLarge
	}
	return first, second, api.OK
}

// Both is the change that makes both.
func Both(n int, a, b []api.Edit) ([]api.Edit, api.Errno) {
	if err := checkTwo(n, a, b); err != api.OK {
		return nil, err
	}
	var d draft
	for x := range steps(n, goings(a, 0), goings(b, 0)) {
		d.put(x.a.begun.New)
		d.put(x.b.begun.New)
		if x.a.inside || x.b.inside {
			d.drop(x.long)
		} else {
			d.keep(x.long)
		}
	}
	l := d.change()
	if len(l) > api.MaxEdits || length(n, l) > api.MaxText {
		return nil, api.ErrLarge
	}
	return l, api.OK
}

// Clash reports whether an edit of one change touches one of the other.
func Clash(n int, a, b []api.Edit) (bool, api.Errno) {
	if err := checkTwo(n, a, b); err != api.OK {
		return false, err
	}
	for len(a) > 0 && len(b) > 0 {
		switch {
		case end(a[0]) < b[0].At:
			a = a[1:]
		case end(b[0]) < a[0].At:
			b = b[1:]
		default:
			return true, api.OK
		}
	}
	return false, api.OK
}
