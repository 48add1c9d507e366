package binder

import (
	"slices"

	"plinth/api"
	"plinth/reader"
	"plinth/shape"
)

// A sheet is a copy of an expression or of a list of statements, and what is
// known of its words.
type sheet struct {
	// form may still be changed, at its words: nobody else has it so far.
	form api.Form
	// words has the places at which variables stand, from the front.
	words []word
	// binders has those that are outside ahead of those inside, from the front.
	binders []*binder
	// scope has the variables in sight by their names. Behind the whole form
	// these are the free ones.
	scope map[string]*variable
}

// A word is a place at which a variable stands.
type word struct {
	at       *api.Form
	of       *variable
	assigned bool
}

// A variable is what words stand for: one for each name that is free, and one
// for each name that a binder binds.
type variable struct {
	name string
	free bool
	// to is what comes to stand in its place, if anything does.
	to *expression
}

// A binder has words[start:end] of its sheet, and among them holds those from
// held on.
type binder struct {
	names            []*variable
	start, held, end int
}

// sheetOf is the sheet of a form that ought to be an expression or a list of
// statements.
func sheetOf(f api.Form) (*sheet, api.Errno) {
	switch {
	case shape.Expr(f) == api.OK:
		return sheetOfExpr(f), api.OK
	case areStmts(f):
		s := newSheet(f)
		s.stmts(s.form.Kids)
		return s, api.OK
	}
	return nil, api.ErrArg
}

// sheetOfExpr is the sheet of an expression.
func sheetOfExpr(f api.Form) *sheet {
	s := newSheet(f)
	s.expr(&s.form)
	return s
}

func newSheet(f api.Form) *sheet {
	return &sheet{form: copied(f), scope: map[string]*variable{}}
}

// areStmts tells whether a form is a list of statements.
func areStmts(f api.Form) bool {
	isOther := func(kid api.Form) bool { return shape.Stmt(kid) != api.OK }
	return f.Kind == api.List && reader.Valid(f) && !slices.ContainsFunc(f.Kids, isOther)
}

// copied is a form that shares no Kids with f.
func copied(f api.Form) api.Form {
	f.Kids = slices.Clone(f.Kids)
	for i, kid := range f.Kids {
		f.Kids[i] = copied(kid)
	}
	return f
}

func wordForm(name string) api.Form {
	return api.Form{Kind: api.Word, Text: name}
}

// isVariable tells whether a word that is an expression is a variable.
func isVariable(name string) bool {
	switch name {
	case "true", "false", "null", "this", "result":
		return false
	}
	return true
}

// use notes a word at which a variable in sight stands, or a free one.
func (s *sheet) use(at *api.Form, assigned bool) {
	v := s.scope[at.Text]
	if v == nil {
		v = &variable{name: at.Text, free: true}
		s.scope[at.Text] = v
	}
	s.words = append(s.words, word{at: at, of: v, assigned: assigned})
}

// binding is what a binder has in a form.
type binding struct {
	names []*api.Form
	first []api.Form // expressions that it does not hold
	held  func()     // goes on with what it holds
}

// bind notes a binder and all words in it.
func (s *sheet) bind(n binding) {
	b := &binder{start: len(s.words)}
	s.binders = append(s.binders, b)
	for _, at := range n.names {
		v := &variable{name: at.Text}
		b.names = append(b.names, v)
		s.words = append(s.words, word{at: at, of: v})
	}
	s.exprs(n.first)
	b.held = len(s.words)
	leave := s.enter(b.names)
	n.held()
	leave()
	b.end = len(s.words)
}

// enter brings variables into sight. What it returns takes them out of it again.
func (s *sheet) enter(vars []*variable) (leave func()) {
	outer := make([]*variable, len(vars))
	for i, v := range vars {
		outer[i] = s.scope[v.name]
		s.scope[v.name] = v
	}
	return func() {
		for i, v := range vars {
			s.scope[v.name] = outer[i]
		}
	}
}

// write puts what comes to stand in the places of variables there.
func (s *sheet) write() {
	for _, w := range s.words {
		if w.of.to != nil {
			*w.at = w.of.to.form
		}
	}
}
