package module

import (
	"plinth/api"
	"plinth/reader"
	"plinth/shape"
)

const maxModuleName = 6 // bytes

// A unit is a module, and what is known of it.
type unit struct {
	name     string
	opens    []string // behind complete: by refining, too
	refines  string   // empty: none
	abstract bool
	decls    []api.Form // its own
	// full and declared are known behind complete.
	full     []api.Form
	declared map[string]bool
}

// unitOf reads a module.
func unitOf(f api.Form) (*unit, api.Errno) {
	if reader.Head(f) != "module" || len(f.Kids) < 2 || !isModuleName(f.Kids[1]) {
		return nil, api.ErrForm
	}
	u := &unit{name: f.Kids[1].Text, decls: f.Kids[2:]}
	for len(u.decls) > 0 && isPart(u.decls[0]) {
		if !u.takePart(u.decls[0]) {
			return nil, api.ErrForm
		}
		u.decls = u.decls[1:]
	}
	for _, decl := range u.decls {
		if err := shape.Decl(decl); err != api.OK {
			return nil, err
		}
	}
	return u, api.OK
}

func isModuleName(f api.Form) bool {
	return f.Kind == api.Word && len(f.Text) <= maxModuleName && shape.IsName(f.Text)
}

func isPart(f api.Form) bool {
	switch reader.Head(f) {
	case "open", "refines", "abstract":
		return true
	}
	return false
}

// takePart notes a part, and tells whether it may stand there.
func (u *unit) takePart(part api.Form) bool {
	if reader.Head(part) == "abstract" {
		isFirst := !u.abstract
		u.abstract = true
		return isFirst && len(part.Kids) == 1
	}
	if len(part.Kids) != 2 || !isModuleName(part.Kids[1]) {
		return false
	}
	name := part.Kids[1].Text
	if reader.Head(part) == "open" {
		u.opens = append(u.opens, name)
		return true
	}
	isFirst := u.refines == ""
	u.refines = name
	return isFirst
}

// needs are the modules that a unit opens or refines itself.
func (u *unit) needs() []string {
	if u.refines == "" {
		return u.opens
	}
	return append([]string{u.refines}, u.opens...)
}

// complete makes of a unit what it is with what it refines, which is nil if it
// refines nothing.
func (u *unit) complete(of *unit) api.Errno {
	own, ok := declaredBy(u.decls)
	if !ok {
		return api.ErrDup
	}
	u.full, u.declared = u.decls, own
	if of == nil {
		return api.OK
	}
	u.opens = append(u.opens, of.opens...)
	u.full, ok = merged(of.full, u.decls)
	if !ok {
		return api.ErrType
	}
	u.declared, ok = declaredBy(u.full)
	if !ok {
		return api.ErrDup
	}
	return api.OK
}

// declaredBy are the names that declarations declare, and whether each one is
// declared just once.
func declaredBy(decls []api.Form) (map[string]bool, bool) {
	names, once := map[string]bool{}, true
	for _, decl := range decls {
		eachName(&decl, func(at *api.Form, isDeclared bool) {
			if isDeclared {
				once = once && !names[at.Text]
				names[at.Text] = true
			}
		})
	}
	return names, once
}

// flat is a name that a unit declares, as it is when it is flattened.
func (u *unit) flat(name string) string {
	return u.name + "_" + name
}
