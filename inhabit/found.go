package inhabit

import (
	"slices"

	"plinth/api"
)

// A lack is data or a subset type, and which of its arguments are not founded.
type lack struct {
	name      string
	arguments [maxTypeVars]bool
}

// A founding finds what is founded. It hangs on others, which are asked for on the
// way.
type founding struct {
	in    *program
	asked []lack
	is    map[lack]bool // of all that are asked for: as far as is known
}

// findFounded finds the data that are founded, with type variables that are.
func (in *program) findFounded() {
	f := &founding{in: in, is: map[lack]bool{}}
	for _, d := range in.decls {
		f.ask(lack{name: d.name})
	}
	untilStill(f.look)
	for _, d := range in.decls {
		in.founded[d.name] = d.kind == aData && f.is[lack{name: d.name}]
	}
}

// ask is what is known of a name with its arguments.
func (f *founding) ask(at lack) bool {
	is, before := f.is[at]
	if !before {
		f.is[at] = false
		f.asked = append(f.asked, at)
	}
	return is
}

// look looks at all that are asked for, also at those that are asked for on the
// way, and tells whether one turns out to be founded.
func (f *founding) look() bool {
	more := false
	for i := 0; i < len(f.asked); i++ {
		at := f.asked[i]
		if !f.is[at] && f.someCtor(at) {
			f.is[at], more = true, true
		}
	}
	return more
}

// someCtor tells whether all fields of some CTOR are founded, as far as is known.
func (f *founding) someCtor(at lack) bool {
	return slices.ContainsFunc(f.in.named[at.name].ctors, func(c ctor) bool {
		return !slices.ContainsFunc(c.fields, func(t api.Form) bool { return !f.isFounded(t, at) })
	})
}

// isFounded tells whether a type in a declaration is founded, as far as is known.
func (f *founding) isFounded(t api.Form, at lack) bool {
	name, behind := parts(t)
	if name == "imap" {
		return f.isFounded(behind[1], at)
	}
	if i := slices.Index(f.in.named[at.name].vars, name); i >= 0 {
		return !at.arguments[i]
	}
	if is := f.in.row[name].Kind; is != aData && is != aSub {
		return true
	}
	inner := lack{name: name}
	for i, t := range behind {
		inner.arguments[i] = !f.isFounded(t, at)
	}
	return f.ask(inner)
}

// findReady finds the data that are ready, by their names alone. What is not
// founded is not: subset types are ready, even if there is no value in them.
func (in *program) findReady() {
	untilStill(func() bool {
		grew := false
		for _, d := range in.decls {
			if in.founded[d.name] && !in.ready[d.name] && slices.ContainsFunc(d.ctors, func(c ctor) bool { return in.allReady(c.fields, d) }) {
				in.ready[d.name], grew = true, true
			}
		}
		return grew
	})
}

// allReady tells whether types in a declaration are ready, as far as is known.
func (in *program) allReady(types []api.Form, d decl) bool {
	return !slices.ContainsFunc(types, func(t api.Form) bool { return !in.isReady(t, d) })
}

// isReady tells whether a type in a declaration is ready, as far as is known. It
// looks through an imap to its value.
func (in *program) isReady(t api.Form, d decl) bool {
	name, behind := parts(t)
	switch name {
	case "int", "bool", "bits", "seq", "set", "bag", "map", "maybe":
		return true
	case "imap":
		return in.isReady(behind[1], d)
	}
	return !d.has(name) && (in.ready[name] || in.row[name].Kind == aSub)
}
