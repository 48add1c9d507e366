package scope

import (
	"plinth/api"
	"plinth/kind"
	"plinth/reader"
)

// decl goes through a declaration.
func (w *walk) decl(d decl) {
	kids := d.held.Kids
	switch d.head() {
	case "data", "codata":
		w.data(d)
	case "sub":
		w.typesOf(kids[2:3])
		w.bindTyped(kids[2:3], false)
		w.exprs(kids[3:]...)
	case "trait", "class":
		w.traits(d)
		w.bring(w.vars, "this", false)
		for _, m := range d.members() {
			w.by = m.of(d.name)
			w.member(m)
		}
	default:
		w.callable(d)
	}
}

// data goes through data and codata.
func (w *walk) data(d decl) {
	w.must(len(d.typeVars()) <= maxTypeVars, api.ErrType)
	w.hide(d.typeVars(), false)
	w.hide(d.eq(), true)
	for _, ctor := range d.ctors() {
		w.typesOf(ctor.Kids[1:])
	}
}

// hide says that words are type variables, and whether their values can be
// compared.
func (w *walk) hide(vars []api.Form, eq bool) {
	for _, v := range vars {
		w.typeVars[v.Text] = kind.Row{Name: v.Text, Kind: aVariable, Eq: eq}
	}
}

// traits goes through the names of the traits of a class or trait.
func (w *walk) traits(d decl) {
	seen := map[string]bool{}
	for _, t := range d.traits() {
		w.noteDecl(named, t, "trait")
		w.must(!seen[t.Text], api.ErrDup)
		seen[t.Text] = true
		w.must(!w.in.below(t.Text, d.name), api.ErrLoop)
	}
}

// member goes through a field or member.
func (w *walk) member(m decl) {
	if m.is("field") {
		w.asType(m.held.Kids[2])
		return
	}
	w.callable(m)
}

// callable goes through a callable declaration, or a member that is no field.
func (w *walk) callable(d decl) {
	rest := d.held.Kids[2:]
	if reader.Head(rest[0]) == "tp" {
		w.hide(rest[0].Kids[1:], false)
		rest = rest[1:]
	}
	params := rest[0].Kids
	w.typesOf(params)
	w.marked = map[string]bool{}
	w.within(func() {
		w.bindTyped(params, false)
		switch d.head() {
		case "function":
			w.asType(rest[1])
			w.function(rest[2:])
		case "method", "lemma", "extern":
			w.typesOf(rest[1].Kids)
			w.method(d, rest[1].Kids, rest[2:])
		default:
			w.function(rest[1:])
		}
	})
}

// function goes through the clauses and the expression of a function.
func (w *walk) function(parts []api.Form) {
	for _, f := range parts {
		w.within(func() {
			switch reader.Head(f) {
			case "ensures":
				w.bring(w.vars, "result", false)
				w.exprs(f.Kids[1:]...)
			case "requires", "reads", "decreases":
				w.exprs(f.Kids[1:]...)
			case "by":
				w.stmts(f.Kids[1:])
			case "opaque":
			default:
				w.expr(f)
			}
		})
	}
}

// method goes through the clauses and the body of a method, lemma or extern.
func (w *walk) method(d decl, results, parts []api.Form) {
	for _, f := range parts {
		w.within(func() {
			switch reader.Head(f) {
			case "ensures":
				w.bindTyped(results, false)
				w.exprs(f.Kids[1:]...)
			case "body":
				w.must(!d.is("extern"), api.ErrName)
				w.bindTyped(results, true)
				w.stmts(f.Kids[1:])
			default:
				w.exprs(f.Kids[1:]...)
			}
		})
	}
}
