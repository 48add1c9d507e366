package binder

import (
	"maps"
	"slices"

	"plinth/api"
	"plinth/shape"
)

// An expression is one that is put in.
type expression struct {
	form api.Form
	free map[string]bool // names of its free variables
	all  map[string]bool // these, and its bound names
}

func expressionOf(f api.Form) *expression {
	e := &expression{form: f, free: map[string]bool{}, all: map[string]bool{}}
	for _, w := range sheetOfExpr(f).words {
		e.all[w.of.name] = true
		if w.of.free {
			e.free[w.of.name] = true
		}
	}
	return e
}

// replaceFree says what comes to stand in the places of free variables.
func (s *sheet) replaceFree(by []Pair) {
	for _, p := range by {
		if v := s.scope[p.Name]; v != nil {
			v.to = expressionOf(p.To)
		}
	}
}

// assignsNames tells whether it is names alone that come to stand where variables
// are assigned.
func (s *sheet) assignsNames() bool {
	return !slices.ContainsFunc(s.words, func(w word) bool {
		return w.assigned && w.of.to != nil && !isName(w.of.to.form)
	})
}

func isName(f api.Form) bool {
	return f.Kind == api.Word && shape.IsName(f.Text)
}

// renameCatching gives other names to bound variables that would bind a free
// one of what is put in. It goes from outside to inside: new names of the
// binders around are put in like all else, those within have none yet.
func (s *sheet) renameCatching() {
	for _, b := range s.binders {
		put := s.putWithin(b)
		catches := func(v *variable) bool {
			return slices.ContainsFunc(put, func(e *expression) bool { return e.free[v.name] })
		}
		if !slices.ContainsFunc(b.names, catches) {
			continue
		}
		avoided := s.avoided(b, put)
		for _, v := range b.names {
			if catches(v) {
				name := fresh(v.name, avoided)
				avoided[name] = true
				v.to = expressionOf(wordForm(name))
			}
		}
	}
}

// putWithin are the expressions that are put in within what a binder holds.
func (s *sheet) putWithin(b *binder) []*expression {
	var put []*expression
	seen := map[*variable]bool{}
	for _, w := range s.words[b.held:b.end] {
		if v := w.of; v.to != nil && !seen[v] {
			seen[v] = true
			put = append(put, v.to)
		}
	}
	return put
}

// avoided are the names that a new one of a binder must not be: those that
// stand in it, the replaced ones among them, and those in what is put in.
func (s *sheet) avoided(b *binder, put []*expression) map[string]bool {
	avoided := map[string]bool{}
	for _, w := range s.words[b.start:b.end] {
		avoided[w.of.name] = true
	}
	for _, e := range put {
		maps.Copy(avoided, e.all)
	}
	return avoided
}
