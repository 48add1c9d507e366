package typing

import (
	"slices"

	"plinth/api"
	"plinth/kind"
	"plinth/reader"
)

func word(s string) api.Form         { return api.Form{Kind: api.Word, Text: s} }
func list(kids ...api.Form) api.Form { return api.Form{Kind: api.List, Kids: kids} }

func anInt() api.Form { return word("int") }
func aBool() api.Form { return word("bool") }
func aNull() api.Form { return word("null") }

func isNull(t api.Form) bool { return reader.Equal(t, aNull()) }

// findBases finds the bases of the subset types. Those that lead back to
// themselves have none, and neither have those whose base would be no valid form.
func (in *program) findBases() {
	asked := map[string]bool{}
	var ask func(name string)
	ask = func(name string) {
		if asked[name] || in.rows[name].Kind != aSub {
			return
		}
		asked[name] = true
		t := in.decls[name].Kids[2].Kids[1]
		for _, other := range kind.Names(t) {
			ask(other)
		}
		var base api.Form
		if refusal(func() { base = in.base(t) }) == api.OK {
			in.bases[name] = base
		}
	}
	for name := range in.decls {
		ask(name)
	}
}

// base is the base of a type.
func (in *program) base(t api.Form) api.Form {
	var by []kind.Pair
	for _, name := range kind.Names(t) {
		if in.rows[name].Kind == aSub {
			base, ok := in.bases[name]
			must(ok, api.ErrType)
			by = append(by, kind.Pair{Name: name, To: base})
		}
	}
	if len(by) == 0 {
		return t
	}
	t = kind.Apply(t, by)
	must(reader.Valid(t), api.ErrType)
	return t
}

// fits does what Fits does.
func (in *program) fits(a, b api.Form) bool {
	a, b = in.base(a), in.base(b)
	switch {
	case reader.Equal(a, b):
		return true
	case isMaybe(b):
		class, ok := in.objectOf(a)
		return isNull(a) || ok && in.isBelow(class, b.Kids[1].Text)
	}
	return in.isObject(a) && in.isObject(b) && in.isBelow(a.Text, b.Text)
}

// joined is the type of what is of one of two types.
func (in *program) joined(a, b api.Form) api.Form {
	if in.fits(b, a) {
		return a
	}
	must(in.fits(a, b), api.ErrType)
	return b
}

func isMaybe(t api.Form) bool {
	return reader.Head(t) == "maybe"
}

// isObject tells whether a type is a class or a trait.
func (in *program) isObject(t api.Form) bool {
	row := in.rows[t.Text]
	return t.Kind == api.Word && (row.Kind == aClass || row.Kind == aTrait)
}

// objectOf is the class or trait whose objects are of a base, null aside, and
// whether it has one.
func (in *program) objectOf(t api.Form) (string, bool) {
	if isMaybe(t) {
		return t.Kids[1].Text, true
	}
	return t.Text, in.isObject(t)
}

// isBelow tells whether a class or trait is another one, or has it among its
// traits.
func (in *program) isBelow(a, b string) bool {
	return slices.Contains(in.line(a), b)
}

// dataOf is the data or codata that a base is of, with what its type variables
// are, and whether it is of any.
func (in *program) dataOf(t api.Form) (string, []kind.Pair, bool) {
	name, arguments := t.Text, []api.Form(nil)
	if t.Kind == api.List {
		name, arguments = reader.Head(t), t.Kids[1:]
	}
	row := in.rows[name]
	// A type variable that is spelled like data has no arguments.
	if row.Kind != aData && row.Kind != aCodata || row.N != len(arguments) {
		return "", nil, false
	}
	return name, pairsOf(in.decls[name].Kids[2].Kids, arguments), true
}

// pairsOf are type variables with as many types.
func pairsOf(vars, types []api.Form) []kind.Pair {
	var by []kind.Pair
	for i, v := range vars {
		by = append(by, kind.Pair{Name: v.Text, To: types[i]})
	}
	return by
}

// fields are the fields of a base, each one with its type, and what its type
// variables are there.
func (in *program) fields(t api.Form) ([]api.Form, []kind.Pair) {
	var fields []api.Form
	if data, by, ok := in.dataOf(t); ok {
		for _, ctor := range ctorsOf(in.decls[data]) {
			fields = append(fields, ctor.Kids[1:]...)
		}
		return fields, by
	}
	if class, ok := in.objectOf(t); ok {
		for _, m := range in.members(class) {
			if reader.Head(m) == "field" {
				fields = append(fields, list(m.Kids[1:]...))
			}
		}
	}
	return fields, nil
}

// typesOf are the types of all fields of a name.
func typesOf(name string, fields []api.Form, by []kind.Pair) []api.Form {
	var types []api.Form
	for _, f := range fields {
		if f.Kids[0].Text == name {
			types = append(types, kind.Apply(f.Kids[1], by))
		}
	}
	return types
}

// theOne is the type that all of some types are.
func theOne(types []api.Form) api.Form {
	for _, t := range types {
		must(reader.Equal(t, types[0]), api.ErrType)
	}
	return types[0]
}
