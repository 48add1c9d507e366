package scope

import (
	"slices"

	"plinth/api"
	"plinth/reader"
)

// A decl is a declaration that layer 4 lets, or a member of one. The zero value
// is none.
type decl struct {
	name string
	form api.Form // as it stands
	held api.Form // what ghost holds there, or the same form
}

func declOf(f api.Form) decl {
	held := f
	if reader.Head(f) == "ghost" {
		held = f.Kids[1]
	}
	return decl{name: held.Kids[1].Text, form: f, held: held}
}

func (d decl) head() string {
	return reader.Head(d.held)
}

// is tells whether a declaration has one of some heads.
func (d decl) is(heads ...string) bool {
	return slices.Contains(heads, d.head())
}

func (d decl) isData() bool {
	return d.is("data", "codata")
}

// isClass tells whether a declaration is a class or a trait.
func (d decl) isClass() bool {
	return d.is("class", "trait")
}

// isCallable tells whether a declaration is a callable one, or a member that is
// no field.
func (d decl) isCallable() bool {
	return d.isFunction() || d.isMethod() || d.is("least", "greatest", "extern")
}

// isFunction tells whether a member is one that get counts.
func (d decl) isFunction() bool {
	return d.is("function", "predicate", "twostate")
}

// isMethod tells whether a member is one that send counts.
func (d decl) isMethod() bool {
	return d.is("method", "lemma")
}

// isCaller tells whether a declaration may call.
func (d decl) isCaller() bool {
	return d.isCallable() || d.is("sub")
}

// typeVars are the type variables of data or codata.
func (d decl) typeVars() []api.Form {
	return d.held.Kids[2].Kids
}

// eq are those type variables that must be comparable.
func (d decl) eq() []api.Form {
	if reader.Head(d.held.Kids[3]) == "eq" {
		return d.held.Kids[3].Kids[1:]
	}
	return nil
}

// ctors are the CTORs of data or codata, with their fields: none of all else.
func (d decl) ctors() []api.Form {
	switch {
	case !d.isData():
		return nil
	case reader.Head(d.held.Kids[3]) == "eq":
		return d.held.Kids[4:]
	}
	return d.held.Kids[3:]
}

// traits are the names of the traits that a class or trait has itself: all else
// has none.
func (d decl) traits() []api.Form {
	if !d.isClass() {
		return nil
	}
	return d.held.Kids[2].Kids
}

// members are the fields and members that a class or trait has itself: all else
// has none.
func (d decl) members() []decl {
	if !d.isClass() {
		return nil
	}
	var l []decl
	for _, f := range d.held.Kids[3:] {
		l = append(l, declOf(f))
	}
	return l
}

// of is the name of a member of a class or trait in lists.
func (d decl) of(class string) string {
	return class + "." + d.name
}

// usedAs is what a field or member of a class or trait is used as.
func (d decl) usedAs() []role {
	switch {
	case d.isFunction():
		return []role{got}
	case d.isMethod():
		return []role{sent}
	}
	return []role{got, stored, sent, given}
}
