package edit

import (
	"iter"

	"hedgelayer/api"
)

// piece is where the bytes of an edit are in a text: those that it replaces, or its New.
type piece struct {
	at, long int
	edit     api.Edit
}

// goings are the pieces that a change replaces, of an old text that has so many bytes more at its beginning.
func goings(l []api.Edit, more int) []piece {
	pieces := make([]piece, len(l))
	for i, e := range l {
		pieces[i] = piece{e.At + more, e.Old, e}
	}
	return pieces
}

// comings are the pieces of the new text that a change has put in.
func comings(l []api.Edit) []piece {
	pieces := make([]piece, len(l))
	shift := 0
	for i, e := range l {
		pieces[i] = piece{e.At + shift, len(e.New), e}
		shift += growth(e)
	}
	return pieces
}

// step is some bytes of a text, from the offset at on, that lie all within the same pieces of two lists.
type step struct {
	at, long int
	a, b     side
}

// side is how a list of pieces stands to a step.
type side struct {
	begun  api.Edit // of the piece that begins with the step; a zero one if there is none
	inside bool     // whether the bytes of the step are in a piece,
	last   piece    // which is this one
}

// steps goes along a text with n bytes and two lists of its pieces. The last step is the one at the end, without bytes.
func steps(n int, a, b []piece) iter.Seq[step] {
	return func(yield func(step) bool) {
		one, two := walker{rest: a}, walker{rest: b}
		at := 0
		for {
			x := step{at: at, a: one.arrive(at), b: two.arrive(at)}
			to := min(n, one.next(at, n), two.next(at, n))
			x.long = to - at
			if !yield(x) || at == n {
				return
			}
			at = to
		}
	}
}

// walker goes along pieces of a text, of which no two touch.
type walker struct {
	last piece   // the last one that has begun
	rest []piece // those behind it
}

// arrive comes to an offset that is not behind the next one.
func (w *walker) arrive(at int) side {
	var x side
	if len(w.rest) > 0 && w.rest[0].at == at {
		w.last = w.rest[0]
		w.rest = w.rest[1:]
		x.begun = w.last.edit
	}
	if at < w.last.at+w.last.long {
		x.inside = true
		x.last = w.last
	}
	return x
}

// next is the first offset behind another one at which a piece begins or ends; n if there is none.
func (w *walker) next(at, n int) int {
	if to := w.last.at + w.last.long; at < to {
		return to
	}
	if len(w.rest) > 0 {
		return w.rest[0].at
	}
	return n
}
