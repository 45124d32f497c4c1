package house

import (
	"iter"

	"rexmill/api"
	"rexmill/disk"
	"rexmill/editor"
	"rexmill/edits"
	"rexmill/journal"
	"rexmill/ruleset"
	"rexmill/store"
	"rexmill/wire"
)

// The files of a house.
const (
	storeFile = iota
	journalFile
)

// What DoEdit does with a document.
const (
	applyItem = iota
	openText
	undoLast
	closeText
)

// durable is what stays when the power fails: versions, and documents, whose edits are in a journal.
type durable struct {
	store   *store.Store
	log     *journal.Log
	editor  *editor.Editor
	live    []ruleset.Rule // the rules of the editor
	index   []int          // of the live rules within their version
	records [][]byte       // the records of the journal, from which the documents can be made again
	lost    bool           // something that was done could not be made durable
}

// load returns what a disk has.
func load(d *disk.Disk) (durable, api.Errno) {
	s, err := store.Open(d, storeFile)
	if err != api.OK {
		return durable{}, err
	}
	log, records, err := journal.Open(d, journalFile)
	if err != api.OK {
		return durable{}, err
	}
	x := durable{store: s, log: log, records: records}
	rules, _ := s.Load(s.Active())
	x.live, x.index = liveRules(rules)
	if x.editor, err = replay(x.live, records); err != api.OK {
		return durable{}, err
	}
	return x, api.OK
}

// replay returns the editor to which the records of a journal lead. Rules make no difference to texts, so it does not matter when they were replaced.
func replay(live []ruleset.Rule, records [][]byte) (*editor.Editor, api.Errno) {
	e, err := editor.New(live)
	if err != api.OK {
		return nil, err
	}
	for op, good := range recorded(records) {
		if !good {
			return nil, api.ErrForm
		}
		if _, _, err := change(e, op); err != api.OK {
			return nil, api.ErrForm
		}
	}
	return e, api.OK
}

// liveRules returns the live rules of a version, with their indices; without any, a rule that matches nothing.
func liveRules(l []ruleset.Rule) ([]ruleset.Rule, []int) {
	var live []ruleset.Rule
	var index []int
	for i, r := range l {
		if _, err := editor.New([]ruleset.Rule{r}); err == api.OK {
			live = append(live, r)
			index = append(index, i)
		}
	}
	if len(live) == 0 {
		live = []ruleset.Rule{{Name: "nothing", Text: "[]"}}
	}
	return live, index
}

// numbered returns matches of the live rules with the numbers that these have in their version.
func (x *durable) numbered(l []api.Found) []api.Found {
	var out []api.Found
	for _, f := range l {
		if f.Rule < len(x.index) {
			f.Rule = x.index[f.Rule]
			out = append(out, f)
		}
	}
	return out
}

// record returns the record of an operation with a document.
func record(x Op) []byte {
	w := &wire.Writer{}
	w.Int(x.A)
	w.Int(x.B)
	w.Raw(x.Raw)
	w.Raw(edits.Encode(x.Item))
	return w.Done()
}

// recorded yields the operations of records, and false for a record that is none.
func recorded(records [][]byte) iter.Seq2[Op, bool] {
	return func(yield func(Op, bool) bool) {
		for _, b := range records {
			r := wire.Read(b)
			op := Op{Kind: DoEdit, A: r.Int(), B: r.Int(), Raw: r.Raw()}
			item, err := edits.Decode(r.Raw())
			op.Item = item
			if !yield(op, err == api.OK && r.End() == api.OK) {
				return
			}
		}
	}
}

// change does something with a document, and returns what vanishes and what appears.
func change(e *editor.Editor, op Op) ([]api.Found, []api.Found, api.Errno) {
	switch op.B {
	case applyItem:
		return e.Apply(op.A, op.Item)
	case openText:
		return nil, nil, e.Open(op.A, op.Raw)
	case undoLast:
		return e.Undo(op.A)
	case closeText:
		return nil, nil, e.Close(op.A)
	}
	return nil, nil, api.ErrArg
}

// putFound writes matches.
func putFound(w *wire.Writer, l []api.Found) {
	for _, f := range l {
		w.Int(f.Rule)
		w.Int(f.Start)
		w.Int(f.End)
	}
}

func (h *House) edit(x Op) (int, []byte, api.Errno) {
	b := record(x)
	if len(b) > api.MaxBlock {
		return 0, nil, api.ErrLimit
	}
	gone, come, err := change(h.editor, x)
	if err != api.OK {
		return 0, nil, err
	}
	if err := h.log.Append(b); err != api.OK {
		// What is not durable has not happened: the documents are made again without it.
		h.lost = true
		h.editor, _ = replay(h.live, h.records)
		return 0, nil, err
	}
	h.records = append(h.records, b)
	gone, come = h.numbered(gone), h.numbered(come)
	w := &wire.Writer{}
	w.Int(len(gone))
	putFound(w, gone)
	putFound(w, come)
	return len(gone) + len(come), w.Done(), api.OK
}
