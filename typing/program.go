package typing

import (
	"slices"

	"plinth/api"
	"plinth/kind"
	"plinth/reader"
	"plinth/scope"
)

// The Kinds of rows.
const (
	aData = 1 + iota
	aCodata
	aClass
	aTrait
	aSub
	aVariable
)

// A program is what is known of declarations that scope lets.
type program struct {
	decls map[string]api.Form // by their names; of ghost ones what is held
	ctors map[string]ctor
	got   map[string]bool // the names that get may have
	rows  map[string]kind.Row
	bases map[string]api.Form // of the subset types that have one
	// typeVars are the type variables of all declarations.
	typeVars map[string]kind.Row
	// lines and has are the classes and traits, and the fields and members, that
	// a class or trait has, as far as they were asked for.
	lines map[string][]string
	has   map[string][]api.Form
}

// A ctor is a CTOR of data or codata.
type ctor struct {
	data   string
	vars   []api.Form // of the data
	fields []api.Form // (x T) ..
}

// read is a program that scope lets.
func read(p []api.Form) (*program, api.Errno) {
	if _, err := scope.Check(p); err != api.OK {
		return nil, api.ErrArg
	}
	return survey(p), api.OK
}

// readWith is a program that scope lets, and that has some types. The type of
// null is one of them.
func readWith(p []api.Form, types ...api.Form) (*program, api.Errno) {
	in, err := read(p)
	if err != api.OK {
		return nil, err
	}
	for _, t := range types {
		if !isNull(t) && kind.Check(t, in.rowsIn(t, in.typeVars)) != api.OK {
			return nil, api.ErrArg
		}
	}
	return in, api.OK
}

// survey looks at declarations that scope lets, from outside.
func survey(p []api.Form) *program {
	in := &program{
		decls:    map[string]api.Form{},
		ctors:    map[string]ctor{},
		got:      map[string]bool{},
		rows:     map[string]kind.Row{},
		bases:    map[string]api.Form{},
		typeVars: map[string]kind.Row{},
		lines:    map[string][]string{},
		has:      map[string][]api.Form{},
	}
	for _, row := range scope.Table(p) {
		in.rows[row.Name] = row
	}
	for _, f := range p {
		in.declare(held(f))
	}
	in.findBases()
	return in
}

// declare notes a declaration.
func (in *program) declare(d api.Form) {
	in.decls[d.Kids[1].Text] = d
	switch reader.Head(d) {
	case "data", "codata":
		in.declareVars(d.Kids[2].Kids)
		for _, f := range ctorsOf(d) {
			in.ctors[f.Kids[0].Text] = ctor{data: d.Kids[1].Text, vars: d.Kids[2].Kids, fields: f.Kids[1:]}
			for _, field := range f.Kids[1:] {
				in.got[field.Kids[0].Text] = true
			}
		}
	case "class", "trait":
		for _, m := range membersOf(d) {
			in.got[nameOf(m)] = true
		}
	case "function", "predicate":
		in.declareVars(signatureOf(d).vars)
	}
}

// declareVars notes type variables. Whether their values can be compared hangs
// on where they stand, and is asked there.
func (in *program) declareVars(vars []api.Form) {
	for _, v := range vars {
		if _, isType := in.rows[v.Text]; !isType {
			in.typeVars[v.Text] = kind.Row{Name: v.Text, Kind: aVariable, Eq: true, New: true}
		}
	}
}

// held is what a ghost declaration or member holds, and any other one itself.
func held(f api.Form) api.Form {
	if reader.Head(f) == "ghost" {
		return f.Kids[1]
	}
	return f
}

// nameOf is the name of a declaration or member.
func nameOf(f api.Form) string {
	return held(f).Kids[1].Text
}

// ctorsOf are the CTORs of data or codata, with their fields.
func ctorsOf(d api.Form) []api.Form {
	if reader.Head(d.Kids[3]) == "eq" {
		return d.Kids[4:]
	}
	return d.Kids[3:]
}

// membersOf are the fields and members that a class or trait has itself.
func membersOf(d api.Form) []api.Form {
	return d.Kids[3:]
}

// rowsIn are the rows of the names that stand in a type, where type variables
// hide all else.
func (in *program) rowsIn(t api.Form, vars map[string]kind.Row) []kind.Row {
	var rows []kind.Row
	for _, name := range kind.Names(t) {
		row, ok := vars[name]
		if !ok {
			row, ok = in.rows[name]
		}
		if ok {
			rows = append(rows, row)
		}
	}
	return rows
}

// line has a class or trait, and behind it its traits, depth first, each once.
func (in *program) line(class string) []string {
	if known, ok := in.lines[class]; ok {
		return known
	}
	var line []string
	seen := map[string]bool{}
	var add func(name string)
	add = func(name string) {
		if seen[name] {
			return
		}
		seen[name] = true
		line = append(line, name)
		for _, t := range in.decls[name].Kids[2].Kids {
			add(t.Text)
		}
	}
	add(class)
	in.lines[class] = line
	return line
}

// members are the fields and members of a class or trait, with those that it has
// by its traits; of ghost ones what is held.
func (in *program) members(class string) []api.Form {
	if known, ok := in.has[class]; ok {
		return known
	}
	var members []api.Form
	seen := map[string]bool{}
	for _, c := range in.line(class) {
		for _, f := range membersOf(in.decls[c]) {
			if m := held(f); !seen[nameOf(m)] {
				seen[nameOf(m)] = true
				members = append(members, m)
			}
		}
	}
	in.has[class] = members
	return members
}

// member is the field or member of a name that a class or trait has with one of
// some heads, and whether there is one.
func (in *program) member(class, name string, heads ...string) (api.Form, bool) {
	for _, m := range in.members(class) {
		if nameOf(m) == name && slices.Contains(heads, reader.Head(m)) {
			return m, true
		}
	}
	return api.Form{}, false
}

// A signature is what something is called with, and what it gives.
type signature struct {
	vars    []api.Form // type variables
	params  []api.Form // (x T) ..
	results []api.Form // (x T) .., of what is a method
	to      api.Form   // the type of what is an expression
	behind  int        // the index of what stands behind all that
}

// signatureOf is that of a callable declaration, or of a member that is no field.
func signatureOf(d api.Form) signature {
	s := signature{to: aBool(), behind: 2}
	next := func() api.Form {
		s.behind++
		return d.Kids[s.behind-1]
	}
	if reader.Head(d.Kids[2]) == "tp" {
		s.vars = next().Kids[1:]
	}
	s.params = next().Kids
	switch reader.Head(d) {
	case "function":
		s.to = next()
	case "method", "lemma", "extern":
		s.results = next().Kids
	}
	return s
}

// signature is that of a CTOR.
func (c ctor) signature() signature {
	s := signature{vars: c.vars, params: c.fields, to: word(c.data)}
	if len(c.vars) > 0 {
		s.to = list(append([]api.Form{s.to}, c.vars...)...)
	}
	return s
}
