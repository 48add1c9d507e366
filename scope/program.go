package scope

import (
	"slices"
	"strings"

	"plinth/api"
	"plinth/kind"
	"plinth/shape"
)

const maxDecls = 200 // of a program

// A program is what is known of declarations. Those that layer 4 does not let
// are left out.
type program struct {
	decls []decl            // in order
	named map[string]decl   // of several of a name the first one
	ctors map[string]string // the data that have them
	rows  map[string]kind.Row
	// got has the names that get may have, stored those of store and send.
	got, stored map[string]bool
	// fields are those of classes, as far as they were asked for.
	fields map[string]map[string]bool
	// uses are known of a program that is let.
	uses []use
}

// read is a program that is let, or else what is wrong with it, and in which
// declaration.
func read(p []api.Form) (*program, string, api.Errno) {
	if len(p) > maxDecls {
		return nil, "", api.ErrArg
	}
	s, err := survey(p)
	if err != api.OK {
		return nil, "", err
	}
	if name, ok := s.again(); ok {
		return nil, name, api.ErrDup
	}
	for _, d := range s.decls {
		w := newWalk(s, d.name)
		w.decl(d)
		if w.err != api.OK {
			return nil, d.name, w.err
		}
		s.uses = append(s.uses, w.uses...)
	}
	return s, "", api.OK
}

// survey looks at declarations from outside, and tells the first error that
// layer 4 has of one.
func survey(p []api.Form) (*program, api.Errno) {
	s := &program{
		named:  map[string]decl{},
		ctors:  map[string]string{},
		rows:   map[string]kind.Row{},
		got:    map[string]bool{},
		stored: map[string]bool{},
		fields: map[string]map[string]bool{},
	}
	first := api.OK
	for _, f := range p {
		err := shape.Decl(f)
		if err == api.OK {
			s.declare(declOf(f))
		} else if first == api.OK {
			first = err
		}
	}
	s.findRows()
	return s, first
}

// declare notes a declaration.
func (s *program) declare(d decl) {
	s.decls = append(s.decls, d)
	if _, again := s.named[d.name]; !again {
		s.named[d.name] = d
	}
	for _, ctor := range d.ctors() {
		s.ctors[ctor.Kids[0].Text] = d.name
		for _, field := range ctor.Kids[1:] {
			s.got[field.Kids[0].Text] = true
		}
	}
	for _, m := range d.members() {
		s.got[m.name] = true
		s.stored[m.name] = true
	}
}

// again is the first declaration that declares a name which is declared before,
// and whether there is one.
func (s *program) again() (string, bool) {
	seen := map[string]bool{}
	for _, d := range s.decls {
		names := []string{d.name}
		for _, ctor := range d.ctors() {
			names = append(names, ctor.Kids[0].Text)
		}
		for _, name := range names {
			if seen[name] {
				return d.name, true
			}
			seen[name] = true
		}
	}
	return "", false
}

// find is a declaration, or the member CLASS.m, and whether it is there.
func (s *program) find(name string) (decl, bool) {
	class, member, isMember := strings.Cut(name, ".")
	if !isMember {
		d, ok := s.named[name]
		return d, ok
	}
	members := s.named[class].members()
	at := slices.IndexFunc(members, func(m decl) bool { return m.name == member })
	if at < 0 {
		return decl{}, false
	}
	return members[at], true
}

// below tells whether a name is another one, or has it among its traits,
// directly or not.
func (s *program) below(a, b string) bool {
	seen := map[string]bool{}
	var leads func(name string) bool
	leads = func(name string) bool {
		if name == b {
			return true
		}
		if seen[name] {
			return false
		}
		seen[name] = true
		return slices.ContainsFunc(s.traitsOf(name), leads)
	}
	return leads(a)
}

// traitsOf are the traits that a class or trait has itself. In a program that is
// not let there may stand other names among them.
func (s *program) traitsOf(class string) []string {
	var names []string
	for _, t := range s.named[class].traits() {
		if s.named[t.Text].is("trait") {
			names = append(names, t.Text)
		}
	}
	return names
}

// membersOf are the members that a class or trait has itself, and behind them
// those that it has by its traits.
func (s *program) membersOf(class string) []decl {
	var l []decl
	there, seen := map[string]bool{}, map[string]bool{}
	var take func(class string)
	take = func(class string) {
		if seen[class] {
			return
		}
		seen[class] = true
		for _, m := range s.named[class].members() {
			if !there[m.name] {
				there[m.name] = true
				l = append(l, m)
			}
		}
		for _, t := range s.traitsOf(class) {
			take(t)
		}
	}
	take(class)
	return l
}

// hasField tells whether new may give a field to an object of a class.
func (s *program) hasField(class, name string) bool {
	if s.fields[class] == nil {
		s.fields[class] = map[string]bool{}
		for _, m := range s.membersOf(class) {
			s.fields[class][m.name] = m.is("field")
		}
	}
	return s.fields[class][name]
}
