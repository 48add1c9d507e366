package scope

import (
	"plinth/api"
	"plinth/kind"
)

// A role is what a name is used as.
type role int

const (
	named  role = iota // what is declared, but is not called there
	called             // by call, lemma, prefix
	got                // by get
	stored             // by store
	sent               // by send
	given              // to an object that is made
)

// A use is a place at which a name is used.
type use struct {
	by   string // the declaration, or the field or member CLASS.m, that has the place
	as   role
	name string
}

// A walk goes through a declaration from the front. It notes which names are
// used, and the first thing that is wrong.
type walk struct {
	in       *program
	by       string // what it is in
	uses     []use  // each once
	noted    map[use]bool
	err      api.Errno
	typeVars map[string]kind.Row
	// vars are the variables in sight, and whether each one may be assigned. The
	// words this and result are among them where they may be read.
	vars   map[string]bool
	labels map[string]bool // those in sight
	marked map[string]bool // the labels of the body so far
	// undo takes out of sight what came into it, the last one first.
	undo []func()
}

func newWalk(in *program, by string) *walk {
	return &walk{
		in:       in,
		by:       by,
		noted:    map[use]bool{},
		typeVars: map[string]kind.Row{},
		vars:     map[string]bool{},
		labels:   map[string]bool{},
	}
}

// must notes an error, unless something holds. The first one counts.
func (w *walk) must(holds bool, err api.Errno) {
	if !holds && w.err == api.OK {
		w.err = err
	}
}

// note notes a use of a name, which must be there.
func (w *walk) note(as role, name string, isThere bool) {
	w.must(isThere, api.ErrName)
	if u := (use{by: w.by, as: as, name: name}); !w.noted[u] {
		w.noted[u] = true
		w.uses = append(w.uses, u)
	}
}

// noteDecl notes a use of a name that must be one of a declaration with one of
// some heads.
func (w *walk) noteDecl(as role, name api.Form, heads ...string) {
	w.note(as, name.Text, w.in.named[name.Text].is(heads...))
}

// noteCtor notes a use of a CTOR, and tells which data have it.
func (w *walk) noteCtor(name api.Form) (data string) {
	data = w.in.ctors[name.Text]
	w.note(named, name.Text, data != "")
	return data
}

// asType goes on with a type.
func (w *walk) asType(t api.Form) {
	rows := w.in.rowsIn(t, w.typeVars)
	err := kind.Check(t, rows)
	if err == api.ErrArg {
		err = api.ErrType
	}
	w.must(err == api.OK, err)
	for _, row := range rows {
		if row.Kind != aVariable {
			w.note(named, row.Name, true)
		}
	}
}

// typesOf goes on with the types of names: (x T) ..
func (w *walk) typesOf(typed []api.Form) {
	for _, pair := range typed {
		w.asType(pair.Kids[1])
	}
}

// within goes on with something, and takes out of sight what came into it there.
func (w *walk) within(something func()) {
	outside := len(w.undo)
	something()
	for last := len(w.undo) - 1; last >= outside; last-- {
		w.undo[last]()
	}
	w.undo = w.undo[:outside]
}

// bring brings a name into sight.
func (w *walk) bring(sight map[string]bool, name string, is bool) {
	outer, hidden := sight[name]
	sight[name] = is
	w.undo = append(w.undo, func() {
		if hidden {
			sight[name] = outer
		} else {
			delete(sight, name)
		}
	})
}

// bind brings variables into sight that may only be read.
func (w *walk) bind(names ...api.Form) {
	for _, name := range names {
		w.bring(w.vars, name.Text, false)
	}
}

// bindTyped brings variables into sight that stand with their types: (x T) ..
func (w *walk) bindTyped(typed []api.Form, mayAssign bool) {
	for _, pair := range typed {
		w.bring(w.vars, pair.Kids[0].Text, mayAssign)
	}
}
