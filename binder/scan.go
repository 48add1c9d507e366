package binder

import (
	"plinth/api"
	"plinth/reader"
)

// The functions here go through expressions and statements that layer 4 lets,
// part by part from the front, and note the words in them at which variables
// stand.

// expr notes the words of an expression.
func (s *sheet) expr(f *api.Form) {
	switch {
	case f.Kind == api.List:
		s.list(f)
	case f.Kind == api.Word && isVariable(f.Text):
		s.use(f, false)
	}
}

// exprs notes the words of expressions side by side.
func (s *sheet) exprs(l []api.Form) {
	for i := range l {
		s.expr(&l[i])
	}
}

// list notes the words of an expression that is a list.
func (s *sheet) list(f *api.Form) {
	kids := f.Kids
	switch reader.Head(*f) {
	case "let", "pick", "all", "some", "every", "any":
		s.bind(named(kids[1].Kids, func() { s.exprs(kids[2:]) }))
	case "fn", "forall", "exists":
		s.bind(binding{names: typed(kids[1].Kids), held: func() { s.triggered(kids[2:]) }})
	case "match":
		s.expr(&kids[1])
		s.arms(kids[2:], s.exprs)
	case "map":
		for _, pair := range kids[1:] {
			s.exprs(pair.Kids)
		}
	default:
		s.exprs(operands(*f))
	}
}

// named is a binding of one name: (x E ..).
func named(kids []api.Form, held func()) binding {
	return binding{names: alone(kids[:1]), first: kids[1:], held: held}
}

// alone are the places of names side by side: x ..
func alone(names []api.Form) []*api.Form {
	var places []*api.Form
	for i := range names {
		places = append(places, &names[i])
	}
	return places
}

// typed are the places of names that stand with their types: (x T) ..
func typed(pairs []api.Form) []*api.Form {
	var places []*api.Form
	for _, pair := range pairs {
		places = append(places, &pair.Kids[0])
	}
	return places
}

// triggered notes the words of triggers, and of the expression behind them.
func (s *sheet) triggered(l []api.Form) {
	last := len(l) - 1
	s.headed(l[:last])
	s.expr(&l[last])
}

// arms notes the words of arms: (CTOR (x ..) PART ..) ..
func (s *sheet) arms(l []api.Form, parts func(l []api.Form)) {
	for _, arm := range l {
		s.bind(binding{names: alone(arm.Kids[1].Kids), held: func() { parts(arm.Kids[2:]) }})
	}
}

// operands are the expressions that stand directly in one that binds nothing.
func operands(f api.Form) []api.Form {
	kids := f.Kids
	switch reader.Head(f) {
	case "empty":
		return nil
	case "imap":
		return kids[1:2]
	case "is", "get", "prefix":
		return kids[2:]
	case "call", "make":
		if len(kids) > 2 && reader.Head(kids[2]) == "of" {
			return kids[3:]
		}
		return kids[2:]
	case "fuel":
		return kids[3:]
	case "old": // a label may stand ahead
		return kids[len(kids)-1:]
	}
	return kids[1:]
}

// stmts notes the words of a list of statements. A var binds in all that is
// behind it.
func (s *sheet) stmts(l []api.Form) {
	for i := range l {
		kids := l[i].Kids
		if reader.Head(l[i]) == "var" {
			s.bind(binding{names: alone(kids[1:2]), first: kids[3:], held: func() { s.stmts(l[i+1:]) }})
			return
		}
		s.stmt(&l[i])
	}
}

// stmt notes the words of a statement.
func (s *sheet) stmt(f *api.Form) {
	kids := f.Kids
	switch reader.Head(*f) {
	case "set", "choose":
		s.assign(kids[1:2])
		s.exprs(kids[2:])
	case "new":
		s.assign(kids[1:2])
		s.headed(kids[3:])
	case "call":
		s.assign(kids[1].Kids)
		s.exprs(kids[3:])
	case "send":
		s.assign(kids[1].Kids)
		s.expr(&kids[2])
		s.exprs(kids[4:])
	case "store":
		s.expr(&kids[1])
		s.expr(&kids[3])
	case "each":
		s.bind(named(kids[1].Kids, func() { s.stmt(&kids[2]) }))
	case "lemma":
		s.bind(named(kids[1].Kids, func() {
			s.headed(kids[2:3])
			s.exprs(kids[4:])
		}))
	default:
		s.nested(f)
	}
}

// nested notes the words of a statement that may have statements in it.
func (s *sheet) nested(f *api.Form) {
	kids := f.Kids
	switch reader.Head(*f) {
	case "ghost", "block":
		s.stmts(kids[1:])
	case "label":
		s.stmts(kids[2:])
	case "if":
		s.expr(&kids[1])
		s.stmts(kids[2].Kids)
		s.stmts(kids[3].Kids)
	case "while":
		s.expr(&kids[1])
		s.headed(kids[2].Kids)
		s.stmts(kids[3:])
	case "case":
		s.expr(&kids[1])
		s.arms(kids[2:], s.stmts)
	case "calc":
		s.expr(&kids[1])
		for _, line := range kids[2:] {
			s.shown(line)
		}
	case "assert", "assume", "expect":
		s.shown(*f)
	}
}

// assign notes words that are assigned.
func (s *sheet) assign(words []api.Form) {
	for i := range words {
		s.use(&words[i], true)
	}
}

// headed notes the words of expressions behind heads: (HEAD E ..) ..
func (s *sheet) headed(l []api.Form) {
	for _, list := range l {
		s.exprs(list.Kids[1:])
	}
}

// shown notes the words of (HEAD E) or (HEAD E (by S ..)).
func (s *sheet) shown(f api.Form) {
	s.expr(&f.Kids[1])
	for _, by := range f.Kids[2:] {
		s.stmts(by.Kids[1:])
	}
}
