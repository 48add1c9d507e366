package typing

import (
	"plinth/api"
	"plinth/kind"
	"plinth/reader"
)

// stmts goes through a list of statements. What comes into sight in it goes with
// its end.
func (w *walk) stmts(l []place) {
	w.within(func() {
		for _, at := range l {
			w.stmt(at)
		}
	})
}

// stmt goes through a statement.
func (w *walk) stmt(at place) {
	kids := at.form.Kids
	switch reader.Head(at.form) {
	case "var":
		for _, e := range at.kids(3) {
			w.flow(e, w.expr(e), kids[2])
		}
		w.bind(kids[1].Text, kids[2])
	case "set":
		w.flow(at.kid(2), w.expr(at.kid(2)), w.typeOf(kids[1].Text))
	case "store":
		w.store(at)
	case "new":
		w.made(at)
	case "call":
		s := signatureOf(w.in.decls[kids[2].Text])
		w.called(s, at.kids(3))
		w.assign(at.kid(1), s)
	case "send":
		w.send(at)
	case "choose":
		told := w.exprs(at.kids(2)...)
		w.allFit(anInt(), told[:2]...)
		w.fit(told[2], aBool())
		w.fit(anInt(), w.typeOf(kids[1].Text))
	case "each":
		w.within(func() {
			w.bound("each", at.kid(1))
			w.stmt(at.kid(2))
		})
	case "lemma":
		w.within(func() { w.lemma(at) })
	default:
		w.nested(at)
	}
}

// store goes through (store E FIELD E).
func (w *walk) store(at place) {
	told := w.exprs(at.kid(1), at.kid(3))
	field, ok := w.in.member(w.object(told[0]), at.form.Kids[2].Text, "field")
	must(ok, api.ErrType)
	w.flow(at.kid(3), told[1], field.Kids[2])
}

// made goes through (new x CLASS (FIELD E) ..). Fields whose types have no value
// without being made must stand there.
func (w *walk) made(at place) {
	kids := at.form.Kids
	all := at.kids(3)
	var told []api.Form
	for _, given := range all {
		told = append(told, w.expr(given.kid(1)))
	}
	isGiven := map[string]bool{}
	for i, given := range all {
		name := reader.Head(given.form)
		must(!isGiven[name], api.ErrType)
		isGiven[name] = true
		field, _ := w.in.member(kids[2].Text, name, "field")
		w.flow(given.kid(1), told[i], field.Kids[2])
	}
	for _, m := range w.in.members(kids[2].Text) {
		if reader.Head(m) == "field" && !isGiven[nameOf(m)] {
			must(kind.Ready(m.Kids[2], w.in.rowsIn(m.Kids[2], nil)), api.ErrType)
		}
	}
	w.fit(kids[2], w.typeOf(kids[1].Text))
}

// assign lets the results of what has a signature flow to the names in a list.
func (w *walk) assign(names place, s signature) {
	must(len(names.form.Kids) == len(s.results), api.ErrType)
	for i, x := range names.kids(0) {
		w.flow(x, s.results[i].Kids[1], w.typeOf(x.form.Text))
	}
}

// send goes through (send (x ..) E m E ..).
func (w *walk) send(at place) {
	class := w.object(w.expr(at.kid(2)))
	m, ok := w.in.member(class, at.form.Kids[3].Text, "method", "lemma")
	must(ok, api.ErrType)
	s := signatureOf(m)
	w.called(s, at.kids(4))
	w.assign(at.kid(1), s)
}

// lemma goes through (lemma (x E E) (requires E) f E ..).
func (w *walk) lemma(at place) {
	w.bound("lemma", at.kid(1))
	w.truths(at.kid(2).kids(1)...)
	w.called(signatureOf(w.in.decls[at.form.Kids[3].Text]), at.kids(4))
}

// nested goes through a statement that has statements in it, or expressions
// alone. What it asks of an expression is asked behind all that stands in it.
func (w *walk) nested(at place) {
	switch reader.Head(at.form) {
	case "ghost", "block":
		w.stmts(at.kids(1))
	case "label":
		w.stmts(at.kids(2))
	case "if":
		told := w.expr(at.kid(1))
		w.stmts(at.kid(2).kids(0))
		w.stmts(at.kid(3).kids(0))
		w.fit(told, aBool())
	case "while":
		told := w.expr(at.kid(1))
		for _, clause := range at.kid(2).kids(0) {
			w.clause(clause)
		}
		w.stmts(at.kids(3))
		w.fit(told, aBool())
	case "case":
		w.arms(w.expr(at.kid(1)), at.kids(2), w.stmts)
	case "calc":
		w.calc(at)
	case "assert", "assume", "expect":
		w.fit(w.shown(at), aBool())
	}
}

// shown goes through (HEAD E) or (HEAD E (by S ..)), and tells the type of E.
func (w *walk) shown(at place) api.Form {
	told := w.expr(at.kid(1))
	for _, by := range at.kids(2) {
		w.stmts(by.kids(1))
	}
	return told
}

// calc goes through (calc E (REL E (by S ..)) ..), where each REL stands between
// the expression ahead and its own.
func (w *walk) calc(at place) {
	ahead := w.expr(at.kid(1))
	for _, line := range at.kids(2) {
		told := w.shown(line)
		w.operation(reader.Head(line.form), []api.Form{ahead, told})
		ahead = told
	}
}
