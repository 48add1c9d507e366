package typing

import (
	"plinth/api"
	"plinth/kind"
	"plinth/reader"
	"plinth/shape"
)

// heldAt is the place of what a ghost declaration or member holds, and that of
// any other one itself.
func heldAt(at place) place {
	if reader.Head(at.form) == "ghost" {
		return at.kid(1)
	}
	return at
}

// decl goes through a declaration.
func (w *walk) decl(at place) {
	at = heldAt(at)
	switch reader.Head(at.form) {
	case "data", "codata":
	case "sub":
		w.sub(at)
	case "trait", "class":
		w.class(at)
	default:
		w.callee(at)
	}
}

// sub goes through (sub NAME (x T) E E).
func (w *walk) sub(at place) {
	pair := at.form.Kids[2]
	w.bindAll([]api.Form{pair})
	w.truths(at.kid(3))
	w.fit(w.expr(at.kid(4)), pair.Kids[1])
}

// class goes through a class or trait.
func (w *walk) class(at place) {
	class := nameOf(at.form)
	w.bind("this", word(class))
	for _, m := range at.kids(3) {
		w.member(m)
	}
	if reader.Head(at.form) == "class" {
		w.overriding(class)
	}
}

// member goes through a field or member of a class or trait.
func (w *walk) member(at place) {
	at = heldAt(at)
	if reader.Head(at.form) != "field" {
		w.within(func() { w.callee(at) })
	}
}

// callee goes through a callable declaration, or through a member that is no
// field.
func (w *walk) callee(at place) {
	s := signatureOf(at.form)
	for _, v := range s.vars {
		w.typeVars[v.Text] = kind.Row{Name: v.Text, Kind: aVariable}
	}
	w.bindAll(s.params)
	for _, part := range at.kids(s.behind) {
		w.within(func() { w.part(part, s) })
	}
}

// part goes through a clause, the body or the expression of what has a signature.
func (w *walk) part(at place, s signature) {
	switch reader.Head(at.form) {
	case "requires", "reads", "modifies", "decreases":
		w.clause(at)
	case "ensures":
		w.bringResults(s)
		w.clause(at)
	case "by", "body":
		w.bringResults(s)
		w.stmts(at.kids(1))
	case "opaque":
	default:
		if isFuel(at.form) {
			return
		}
		w.flow(at, w.expr(at), s.to)
	}
}

// isFuel tells whether a form is the clause (fuel N). (fuel N f E) is none.
func isFuel(f api.Form) bool {
	return reader.Head(f) == "fuel" && len(f.Kids) == 2
}

// bringResults brings the results of what has a signature into sight.
func (w *walk) bringResults(s signature) {
	w.bind("result", s.to)
	w.bindAll(s.results)
}

// clause goes through a clause that asks its expressions alone.
func (w *walk) clause(at place) {
	for _, e := range at.kids(1) {
		switch told := w.in.base(w.expr(e)); reader.Head(at.form) {
		case "requires", "ensures", "invariant":
			w.fit(told, aBool())
		case "decreases":
			head := reader.Head(told)
			must(head != "fun" && head != "imap", api.ErrType)
		case "reads", "modifies":
			if reader.Head(told) == "set" {
				told = told.Kids[1]
			}
			w.object(told)
		}
	}
}

// overriding asks that a class has the members of its traits, and has them as
// they have them.
func (w *walk) overriding(class string) {
	own, hasBody := map[string]api.Form{}, map[string]bool{}
	for _, m := range membersOf(w.in.decls[class]) {
		own[nameOf(m)] = m
	}
	traits := w.in.line(class)[1:]
	for _, t := range traits {
		for _, m := range membersOf(w.in.decls[t]) {
			_, is := shape.Body(m)
			hasBody[nameOf(m)] = hasBody[nameOf(m)] || is
		}
	}
	for _, t := range traits {
		for _, m := range membersOf(w.in.decls[t]) {
			if mine, ok := own[nameOf(m)]; ok {
				must(isLike(mine, m), api.ErrType)
				continue
			}
			must(reader.Head(held(m)) == "field" || hasBody[nameOf(m)], api.ErrType)
		}
	}
}

// isLike tells whether two members of one name are equal from outside.
func isLike(a, b api.Form) bool {
	if reader.Head(a) != reader.Head(b) {
		return false
	}
	a, b = held(a), held(b)
	return reader.Head(a) == reader.Head(b) && reader.Equal(outside(a), outside(b))
}

// outside is what a member has ahead of all clauses: Params, and Results or a
// type.
func outside(m api.Form) api.Form {
	if reader.Head(m) == "field" {
		return list(m.Kids[2:]...)
	}
	return list(m.Kids[2:signatureOf(m).behind]...)
}
