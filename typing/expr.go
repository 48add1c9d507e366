package typing

import (
	"slices"

	"plinth/api"
	"plinth/kind"
	"plinth/reader"
)

// exprs are the types of expressions side by side, from the front.
func (w *walk) exprs(l ...place) []api.Form {
	var types []api.Form
	for _, at := range l {
		types = append(types, w.expr(at))
	}
	return types
}

// expr is the type of an expression.
func (w *walk) expr(at place) api.Form {
	switch at.form.Kind {
	case api.Num:
		return anInt()
	case api.Word:
		return w.variable(at.form.Text)
	}
	t := w.list(reader.Head(at.form), at)
	// What is made of types that are let may be none itself: a set of what cannot
	// be compared, or a seq of nulls.
	must(t.Kind == api.Word || w.lets(t), api.ErrType)
	return t
}

// variable is the type of a word.
func (w *walk) variable(name string) api.Form {
	switch name {
	case "true", "false":
		return aBool()
	case "null":
		return aNull()
	}
	return w.typeOf(name)
}

// list is the type of an expression that is a list. Names that scope would
// refuse, and types, are asked here for expressions that scope has not seen.
func (w *walk) list(head string, at place) api.Form {
	kids := at.form.Kids
	switch head {
	case "call":
		s := signatureOf(w.callable(kids[1].Text, "function", "predicate", "twostate", "least", "greatest"))
		return kind.Apply(s.to, w.called(s, at.kids(2)))
	case "prefix":
		return w.prefix(at)
	case "make":
		ctor, ok := w.in.ctors[kids[1].Text]
		must(ok, api.ErrName)
		s := ctor.signature()
		return w.in.base(kind.Apply(s.to, w.called(s, at.kids(2))))
	case "is":
		return w.is(at)
	case "get":
		return w.get(kids[1].Text, w.expr(at.kid(2)))
	case "app":
		return w.app(at)
	case "fuel":
		t := w.in.base(w.expr(at.kid(3)))
		w.callable(kids[2].Text, "function", "predicate")
		return t
	case "old":
		return w.in.base(w.expr(at.kid(len(kids) - 1)))
	case "bits":
		must(kids[2].N < 1<<kids[1].N, api.ErrRange)
		return list(kids[0], kids[1])
	case "map":
		return w.mapOf(at)
	case "empty":
		w.asTypes(kids[1])
		w.arguments(kids[1], "seq", "set", "bag", "map")
		return w.in.base(kids[1])
	case "imap":
		value := w.in.base(w.expr(at.kid(1)))
		w.asTypes(kids[2])
		return list(word("imap"), w.in.base(kids[2]), value)
	case "let", "pick", "all", "some", "every", "any", "fn", "forall", "exists", "match":
		return w.binder(head, at)
	}
	return w.operation(head, w.exprs(at.kids(1)...))
}

// callable is the declaration of a name, which must have one of some heads.
func (w *walk) callable(name string, heads ...string) api.Form {
	d, ok := w.in.decls[name]
	must(ok && slices.Contains(heads, reader.Head(d)), api.ErrName)
	return d
}

// called goes through the arguments of what has a signature, where types may
// stand ahead, and tells what its type variables are there.
func (w *walk) called(s signature, l []place) []kind.Pair {
	var of []api.Form
	if len(l) > 0 && reader.Head(l[0].form) == "of" {
		of = l[0].form.Kids[1:]
		w.asTypes(of...)
		l = l[1:]
	}
	told := w.exprs(l...)
	must(len(told) == len(s.params), api.ErrType)
	by := w.pairs(s, of, told)
	for i, at := range l {
		w.flow(at, told[i], kind.Apply(s.params[i].Kids[1], by))
	}
	return by
}

// pairs are the type variables of a signature, as they are told, or as the types
// of the arguments tell.
func (w *walk) pairs(s signature, of, told []api.Form) []kind.Pair {
	if len(of) > 0 {
		must(len(of) == len(s.vars), api.ErrType)
		return pairsOf(s.vars, of)
	}
	// The variables are apart from those around the call: no name begins so.
	const apart = "?"
	var names []string
	var renamed []kind.Pair
	for _, v := range s.vars {
		names = append(names, apart+v.Text)
		renamed = append(renamed, kind.Pair{Name: v.Text, To: word(apart + v.Text)})
	}
	if len(names) == 0 {
		return nil
	}
	var asked, given []api.Form
	for i, t := range told {
		asked = append(asked, w.in.base(kind.Apply(s.params[i].Kids[1], renamed)))
		given = append(given, w.in.base(t))
	}
	by, err := kind.UnifyAll(asked, given, names)
	must(err == api.OK && len(by) == len(names), api.ErrType)
	for i := range by {
		by[i].Name = by[i].Name[len(apart):]
	}
	return by
}

// prefix is the type of (prefix f N E ..).
func (w *walk) prefix(at place) api.Form {
	s := signatureOf(w.callable(at.form.Kids[1].Text, "least", "greatest"))
	n := w.expr(at.kid(2))
	w.called(s, at.kids(3))
	w.fit(n, anInt())
	return s.to
}

// is is the type of (is CTOR E).
func (w *walk) is(at place) api.Form {
	t := w.expr(at.kid(2))
	ctor, ok := w.in.ctors[at.form.Kids[1].Text]
	must(ok, api.ErrName)
	data, _, _ := w.in.dataOf(w.in.base(t))
	must(data == ctor.data, api.ErrType)
	return aBool()
}

// get is the type of a field, or of a member function without Params, of what
// has a type.
func (w *walk) get(name string, of api.Form) api.Form {
	must(w.in.got[name], api.ErrName)
	of = w.in.base(of)
	fields, by := w.in.fields(of)
	if types := typesOf(name, fields, by); len(types) > 0 {
		return theOne(types)
	}
	m, ok := w.in.member(w.object(of), name, "function", "predicate", "twostate")
	must(ok, api.ErrType)
	s := signatureOf(m)
	must(len(s.params) == 0, api.ErrType)
	return s.to
}

// app is the type of (app E E ..).
func (w *walk) app(at place) api.Form {
	told := w.exprs(at.kids(1)...)
	f := w.arguments(told[0], "fun")
	params, told := f[0].Kids, told[1:]
	must(len(told) == len(params), api.ErrType)
	for i, t := range told {
		w.flow(at.kid(i+2), t, params[i])
	}
	return f[1]
}

// mapOf is the type of (map (E E) ..).
func (w *walk) mapOf(at place) api.Form {
	var keys, values []api.Form
	for _, pair := range at.kids(1) {
		keys = append(keys, w.expr(pair.kid(0)))
		values = append(values, w.expr(pair.kid(1)))
	}
	return list(word("map"), w.joinedBase(keys), w.joinedBase(values))
}

// joinedBase is the base of the type of what is of one of some types.
func (w *walk) joinedBase(types []api.Form) api.Form {
	must(len(types) > 0, api.ErrType)
	t := types[0]
	for _, other := range types[1:] {
		t = w.in.joined(t, other)
	}
	return w.in.base(t)
}
