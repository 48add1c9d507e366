package typing

import (
	"slices"

	"plinth/api"
	"plinth/kind"
	"plinth/reader"
)

// A place is a form in a declaration, and the path to it.
type place struct {
	form api.Form
	path []int
}

// kid is the place of a Kid.
func (at place) kid(i int) place {
	return place{form: at.form.Kids[i], path: append(slices.Clone(at.path), i)}
}

// kids are the places of the Kids from an index on.
func (at place) kids(from int) []place {
	var l []place
	for i := from; i < len(at.form.Kids); i++ {
		l = append(l, at.kid(i))
	}
	return l
}

// A sight is a variable with its type, and what was in sight ahead of it. Of
// several of a name the last one counts.
type sight struct {
	name  string
	t     api.Form
	outer *sight
}

// A walk goes through expressions, statements and declarations from the front,
// and stops with the first error.
type walk struct {
	in       *program
	typeVars map[string]kind.Row
	vars     *sight // the words this and result are among them where they stand for something
	// flows is told of each place at which a value flows: the type that the value
	// is told to have, and the one that is asked.
	flows func(at place, told, asked api.Form)
}

func newWalk(in *program) *walk {
	return &walk{
		in:       in,
		typeVars: map[string]kind.Row{},
		flows:    func(place, api.Form, api.Form) {},
	}
}

// bind brings a variable into sight.
func (w *walk) bind(name string, t api.Form) {
	w.vars = &sight{name: name, t: t, outer: w.vars}
}

// bindAll brings variables into sight that stand with their types: (x T) ..
func (w *walk) bindAll(typed []api.Form) {
	for _, pair := range typed {
		w.bind(pair.Kids[0].Text, pair.Kids[1])
	}
}

// within goes on with something, and takes out of sight what came into it there.
func (w *walk) within(something func()) {
	outer := w.vars
	something()
	w.vars = outer
}

// typeOf is the type of a variable in sight.
func (w *walk) typeOf(name string) api.Form {
	v := w.vars
	for v != nil && v.name != name {
		v = v.outer
	}
	must(v != nil, api.ErrName)
	return v.t
}

// lets tells whether a type is one.
func (w *walk) lets(t api.Form) bool {
	return kind.Check(t, w.in.rowsIn(t, w.typeVars)) == api.OK
}

// asTypes goes on with types in expressions.
func (w *walk) asTypes(types ...api.Form) {
	for _, t := range types {
		must(w.lets(t), api.ErrType)
	}
}

// asTyped goes on with the types of names: (x T) ..
func (w *walk) asTyped(typed []api.Form) {
	for _, pair := range typed {
		w.asTypes(pair.Kids[1])
	}
}

// fit stops where a value of one type does not fit another one.
func (w *walk) fit(told, asked api.Form) {
	must(w.in.fits(told, asked), api.ErrType)
}

// allFit does so for values of several types.
func (w *walk) allFit(asked api.Form, told ...api.Form) {
	for _, t := range told {
		w.fit(t, asked)
	}
}

// flow lets the value at a place flow to where a type is asked.
func (w *walk) flow(at place, told, asked api.Form) {
	w.fit(told, asked)
	w.flows(at, told, asked)
}

// arguments are those of the base of a type that has one of some heads.
func (w *walk) arguments(t api.Form, heads ...string) []api.Form {
	base := w.in.base(t)
	must(slices.Contains(heads, reader.Head(base)), api.ErrType)
	return base.Kids[1:]
}

// object is the class or trait that the base of a type has, null aside.
func (w *walk) object(t api.Form) string {
	class, ok := w.in.objectOf(w.in.base(t))
	must(ok, api.ErrType)
	return class
}
