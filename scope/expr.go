package scope

import (
	"plinth/api"
	"plinth/reader"
)

// exprs goes through expressions side by side.
func (w *walk) exprs(l ...api.Form) {
	for _, f := range l {
		w.expr(f)
	}
}

// expr goes through an expression.
func (w *walk) expr(f api.Form) {
	switch {
	case f.Kind == api.List:
		w.list(reader.Head(f), f.Kids[1:])
	case f.Kind == api.Word && !isConstant(f.Text):
		_, isInSight := w.vars[f.Text]
		w.must(isInSight, api.ErrName)
	}
}

func isConstant(word string) bool {
	return word == "true" || word == "false" || word == "null"
}

// list goes through the Kids behind the head of an expression.
func (w *walk) list(head string, kids []api.Form) {
	switch head {
	case "call":
		w.noteDecl(called, kids[0], "function", "predicate", "twostate", "least", "greatest")
		w.arguments(kids[1:])
	case "prefix":
		w.noteDecl(called, kids[0], "least", "greatest")
		w.exprs(kids[1:]...)
	case "fuel":
		w.fuel(kids)
	case "make":
		w.noteCtor(kids[0])
		w.arguments(kids[1:])
	case "is":
		w.noteCtor(kids[0])
		w.expr(kids[1])
	case "get":
		w.note(got, kids[0].Text, w.in.got[kids[0].Text])
		w.expr(kids[1])
	case "old":
		w.must(len(kids) == 1 || w.labels[kids[0].Text], api.ErrName)
		w.expr(kids[len(kids)-1])
	case "empty":
		w.asType(kids[0])
	case "imap":
		w.expr(kids[0])
		w.asType(kids[1])
	case "map":
		for _, pair := range kids {
			w.exprs(pair.Kids...)
		}
	default:
		w.within(func() { w.binder(head, kids) })
	}
}

// fuel goes through (fuel N f E), and through the clause (fuel N), which has
// nothing that is asked.
func (w *walk) fuel(kids []api.Form) {
	if len(kids) > 1 {
		w.noteDecl(named, kids[1], "function", "predicate")
		w.expr(kids[2])
	}
}

// arguments goes through those of call and make: types may stand ahead.
func (w *walk) arguments(l []api.Form) {
	if len(l) > 0 && reader.Head(l[0]) == "of" {
		for _, t := range l[0].Kids[1:] {
			w.asType(t)
		}
		l = l[1:]
	}
	w.exprs(l...)
}

// binder goes through the Kids of an expression that may bind names.
func (w *walk) binder(head string, kids []api.Form) {
	switch head {
	case "let", "pick", "all", "some", "every", "any":
		w.bound(kids[0])
		w.exprs(kids[1:]...)
	case "fn", "forall", "exists":
		w.typesOf(kids[0].Kids)
		w.bindTyped(kids[0].Kids, false)
		last := len(kids) - 1
		for _, trigger := range kids[1:last] {
			w.exprs(trigger.Kids[1:]...)
		}
		w.expr(kids[last])
	case "match":
		w.expr(kids[0])
		w.arms(kids[1:], func(l []api.Form) { w.exprs(l...) })
	default:
		w.exprs(kids...)
	}
}

// bound goes through (x E ..), and brings x into sight behind it.
func (w *walk) bound(f api.Form) {
	w.exprs(f.Kids[1:]...)
	w.bind(f.Kids[0])
}

// arms goes through arms: (CTOR (x ..) PART ..) ..
func (w *walk) arms(l []api.Form, parts func(l []api.Form)) {
	seen := map[string]bool{}
	data := w.in.ctors[l[0].Kids[0].Text]
	for _, arm := range l {
		ctor := arm.Kids[0]
		w.must(w.noteCtor(ctor) == data, api.ErrName)
		w.must(!seen[ctor.Text], api.ErrDup)
		seen[ctor.Text] = true
		w.within(func() {
			w.bind(arm.Kids[1].Kids...)
			parts(arm.Kids[2:])
		})
	}
}
