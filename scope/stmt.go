package scope

import (
	"plinth/api"
	"plinth/reader"
)

// stmts goes through a list of statements. What comes into sight in it goes with
// its end.
func (w *walk) stmts(l []api.Form) {
	w.within(func() {
		for _, f := range l {
			w.stmt(reader.Head(f), f.Kids[1:])
		}
	})
}

// stmt goes through the Kids behind the head of a statement.
func (w *walk) stmt(head string, kids []api.Form) {
	switch head {
	case "var":
		w.asType(kids[1])
		w.exprs(kids[2:]...)
		w.bring(w.vars, kids[0].Text, true)
	case "set", "choose":
		w.assign(kids[0])
		w.exprs(kids[1:]...)
	case "store":
		w.expr(kids[0])
		w.note(stored, kids[1].Text, w.in.stored[kids[1].Text])
		w.expr(kids[2])
	case "new":
		w.made(kids)
	case "call":
		w.assign(kids[0].Kids...)
		w.noteDecl(called, kids[1], "method", "lemma", "extern")
		w.exprs(kids[2:]...)
	case "send":
		w.assign(kids[0].Kids...)
		w.expr(kids[1])
		w.note(sent, kids[2].Text, w.in.stored[kids[2].Text])
		w.exprs(kids[3:]...)
	case "reveal":
		w.noteDecl(named, kids[0], "function", "predicate")
	case "label":
		w.must(!w.marked[kids[0].Text], api.ErrDup)
		w.marked[kids[0].Text] = true
		w.bring(w.labels, kids[0].Text, true)
		w.stmts(kids[1:])
	case "each", "lemma":
		w.within(func() { w.ranged(head, kids) })
	default:
		w.nested(head, kids)
	}
}

// assign goes through names that are assigned. The word result stands among them
// in a by alone, where it may be assigned.
func (w *walk) assign(names ...api.Form) {
	for _, name := range names {
		w.must(w.vars[name.Text] || name.Text == "result", api.ErrName)
	}
}

// made goes through a new object: x CLASS (FIELD E) ..
func (w *walk) made(kids []api.Form) {
	w.assign(kids[0])
	class := kids[1]
	w.noteDecl(named, class, "class")
	for _, f := range kids[2:] {
		field := f.Kids[0]
		w.note(given, field.Text, w.in.hasField(class.Text, field.Text))
		w.expr(f.Kids[1])
	}
}

// ranged goes through a statement that holds for all numbers of a range at once.
func (w *walk) ranged(head string, kids []api.Form) {
	w.bound(kids[0])
	if head == "each" {
		w.stmts(kids[1:])
		return
	}
	w.exprs(kids[1].Kids[1:]...)
	w.noteDecl(called, kids[2], "lemma")
	w.exprs(kids[3:]...)
}

// nested goes through a statement that has statements in it, or expressions
// alone.
func (w *walk) nested(head string, kids []api.Form) {
	switch head {
	case "ghost", "block":
		w.stmts(kids)
	case "if":
		w.expr(kids[0])
		w.stmts(kids[1].Kids)
		w.stmts(kids[2].Kids)
	case "while":
		w.expr(kids[0])
		for _, clause := range kids[1].Kids {
			w.exprs(clause.Kids[1:]...)
		}
		w.stmts(kids[2:])
	case "case":
		w.expr(kids[0])
		w.arms(kids[1:], w.stmts)
	case "calc":
		w.expr(kids[0])
		for _, line := range kids[1:] {
			w.shown(line.Kids[1:])
		}
	case "assert", "assume", "expect":
		w.shown(kids)
	}
}

// shown goes through E, and (by S ..) if it stands behind.
func (w *walk) shown(kids []api.Form) {
	w.expr(kids[0])
	for _, by := range kids[1:] {
		w.stmts(by.Kids[1:])
	}
}
