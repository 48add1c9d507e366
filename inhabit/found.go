package inhabit

import (
	"slices"

	"plinth/api"
)

// findFounded finds the data that are founded. In which rounds does not matter.
func (in *program) findFounded() {
	s := &search{in: in, told: map[instance]told{}, known: func(name string) (int, bool) {
		is := in.row[name].Kind
		return 0, is != aData && is != aSub
	}}
	// The type variables are founded: the rounds of arguments are 0.
	for _, d := range in.decls {
		s.ask(instance{name: d.name})
	}
	untilStill(s.look)
	for _, d := range in.decls {
		in.founded[d.name] = d.kind == aData && s.told[instance{name: d.name}].round == 0
	}
}

// findReady finds the data that are ready, by their names alone. What is not
// founded is not: subset types are ready, even if there is no value in them.
func (in *program) findReady() {
	untilStill(func() bool {
		grew := false
		for _, d := range in.decls {
			if in.founded[d.name] && !in.ready[d.name] && slices.ContainsFunc(d.ctors, func(c ctor) bool { return in.allReady(c.fields, d) }) {
				in.ready[d.name], grew = true, true
			}
		}
		return grew
	})
}

// allReady tells whether types in a declaration are ready, as far as is known.
func (in *program) allReady(types []api.Form, d decl) bool {
	return !slices.ContainsFunc(types, func(t api.Form) bool { return !in.isReady(t, d) })
}

// isReady tells whether a type in a declaration is ready, as far as is known.
func (in *program) isReady(t api.Form, d decl) bool {
	name, behind := parts(t)
	switch name {
	case "int", "bool", "bits", "seq", "set", "bag", "map", "maybe":
		return true
	case "imap":
		return in.isReady(behind[1], d)
	}
	return !d.has(name) && (in.ready[name] || in.row[name].Kind == aSub)
}

// readiness is the search for the rounds in which data are ready, with their
// arguments.
func (in *program) readiness() *search {
	known := func(name string) (int, bool) {
		switch {
		case in.founded[name]:
			return 0, false
		case in.row[name].Kind == aSub:
			return 0, true
		}
		return never, true
	}
	return &search{in: in, known: known, step: 1, last: len(in.decls), told: map[instance]told{}}
}
