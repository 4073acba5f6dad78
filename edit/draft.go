package edit

import (
	"strings"

	"hedgelayer/api"
)

// draft is a change that is put together from the beginning of the text on.
// All that is dropped and put between two bytes that are kept becomes one edit.
type draft struct {
	edits []api.Edit
	at    int      // in the old text, behind the last byte that is kept
	old   int      // how many bytes are dropped since then
	parts []string // what is put since then
}

// keep says that the next bytes of the old text stay.
func (d *draft) keep(long int) {
	if long == 0 {
		return
	}
	d.close()
	d.at += long
}

// drop says that the next bytes of the old text go.
func (d *draft) drop(long int) { d.old += long }

// put says what comes next in the new text.
func (d *draft) put(s string) {
	if s != "" {
		d.parts = append(d.parts, s)
	}
}

// close makes an edit of what is dropped and put.
func (d *draft) close() {
	if d.old == 0 && len(d.parts) == 0 {
		return
	}
	d.edits = append(d.edits, api.Edit{At: d.at, Old: d.old, New: strings.Join(d.parts, "")})
	d.at += d.old
	d.old = 0
	d.parts = d.parts[:0]
}

// change is the change that has been put together; the rest of the text is kept.
func (d *draft) change() []api.Edit {
	d.close()
	return d.edits
}
