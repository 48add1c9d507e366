package module

import (
	"slices"

	"plinth/api"
	"plinth/reader"
)

const maxModules = 20

// A program is one in modules that is let.
type program struct {
	units []*unit // each one behind those that it opens or refines
	named map[string]*unit
}

// read reads a program in modules, and stops with what is wrong with it.
func read(l []api.Form) (*program, api.Errno) {
	isNone := func(f api.Form) bool { return !reader.Valid(f) }
	if len(l) > maxModules || slices.ContainsFunc(l, isNone) {
		return nil, api.ErrArg
	}
	p := &program{named: map[string]*unit{}}
	for _, f := range l {
		u, err := unitOf(f)
		if err != api.OK {
			return nil, err
		}
		p.units = append(p.units, u)
	}
	for _, step := range []func() api.Errno{p.name, p.order, p.complete, p.resolve} {
		if err := step(); err != api.OK {
			return nil, err
		}
	}
	return p, api.OK
}

// name notes the names of the modules.
func (p *program) name() api.Errno {
	for _, u := range p.units {
		if p.named[u.name] != nil {
			return api.ErrDup
		}
		p.named[u.name] = u
	}
	return api.OK
}

// order puts the modules into their order.
func (p *program) order() api.Errno {
	isUnknown := func(name string) bool { return p.named[name] == nil }
	isAbstract := func(name string) bool { return p.named[name].abstract }
	for _, u := range p.units {
		if slices.ContainsFunc(u.needs(), isUnknown) {
			return api.ErrName
		}
	}
	ordered, ok := inOrder(p.units)
	if !ok {
		return api.ErrLoop
	}
	p.units = ordered
	for _, u := range p.units {
		if slices.ContainsFunc(u.opens, isAbstract) {
			return api.ErrName
		}
	}
	return api.OK
}

// inOrder are units with each one behind those that it needs, and whether that
// can be.
func inOrder(units []*unit) ([]*unit, bool) {
	var ordered []*unit
	stands := map[string]bool{}
	isMissing := func(name string) bool { return !stands[name] }
	isNext := func(u *unit) bool { return !stands[u.name] && !slices.ContainsFunc(u.needs(), isMissing) }
	for range units {
		at := slices.IndexFunc(units, isNext)
		if at < 0 {
			return nil, false
		}
		ordered = append(ordered, units[at])
		stands[units[at].name] = true
	}
	return ordered, true
}

// complete makes of the modules what they are with what they refine.
func (p *program) complete() api.Errno {
	for _, u := range p.units {
		if err := u.complete(p.named[u.refines]); err != api.OK {
			return err
		}
	}
	return api.OK
}

// resolve asks whether all names mean something.
func (p *program) resolve() api.Errno {
	err := api.OK
	for _, u := range p.units {
		for _, decl := range u.full {
			eachName(&decl, func(at *api.Form, isDeclared bool) {
				if err == api.OK && !isDeclared {
					_, err = p.means(u, at.Text)
				}
			})
		}
	}
	return err
}

// means is the unit that declares what a name means in a unit.
func (p *program) means(u *unit, name string) (*unit, api.Errno) {
	if u.declared[name] {
		return u, api.OK
	}
	var found *unit
	for _, opened := range u.opens {
		by := p.named[opened]
		if !by.declared[name] || by == found {
			continue
		}
		if found != nil {
			return nil, api.ErrDup
		}
		found = by
	}
	if found == nil {
		return nil, api.ErrName
	}
	return found, api.OK
}

// flattened is a declaration of a unit with the names as they are when they are
// flattened.
func (p *program) flattened(u *unit, decl api.Form) api.Form {
	decl = copied(decl)
	eachName(&decl, func(at *api.Form, isDeclared bool) {
		by := u
		if !isDeclared {
			by, _ = p.means(u, at.Text)
		}
		at.Text = by.flat(at.Text)
	})
	return decl
}

// copied is a form that shares no Kids with f.
func copied(f api.Form) api.Form {
	f.Kids = slices.Clone(f.Kids)
	for i, kid := range f.Kids {
		f.Kids[i] = copied(kid)
	}
	return f
}
