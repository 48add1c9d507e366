package inhabit

import (
	"slices"

	"plinth/api"
	"plinth/kind"
	"plinth/reader"
	"plinth/scope"
)

// The Kinds of rows that are asked for here.
const (
	aData     = 1
	aCodata   = 2
	aSub      = 5
	aVariable = 6
)

const maxTypeVars = 4 // of data and codata

// A decl is a declaration of data, codata or a subset type. A subset type is
// taken for data with one CTOR, which has one field of its type.
type decl struct {
	name    string
	kind    int // that of its row
	vars    []string
	eq      []string // those of the vars that must be comparable
	ctors   []ctor
	witness api.Form // of a subset type
}

// A ctor is a CTOR with the types of its fields.
type ctor struct {
	name   string
	fields []api.Form
}

// A program is what is known of the types of declarations that scope lets.
type program struct {
	decls []decl // in order
	named map[string]decl
	rows  []kind.Row          // the table
	row   map[string]kind.Row // these by name
	// founded and ready are the data that are so, by their names.
	founded, ready map[string]bool
}

// read is a program that scope lets, or else the error that it has.
func read(p []api.Form) (*program, api.Errno) {
	if _, err := scope.Check(p); err != api.OK {
		return nil, err
	}
	return survey(p), api.OK
}

// readWith is a program that scope lets, and that has a type.
func readWith(p []api.Form, t api.Form) (*program, api.Errno) {
	in, err := read(p)
	if err != api.OK {
		return nil, err
	}
	return in, kind.Check(t, in.rows)
}

// survey looks at declarations that scope lets.
func survey(p []api.Form) *program {
	in := &program{
		named:   map[string]decl{},
		row:     map[string]kind.Row{},
		founded: map[string]bool{},
		ready:   map[string]bool{},
	}
	table := scope.Table(p)
	for _, row := range table {
		in.row[row.Name] = row
	}
	for _, f := range p {
		if d, ok := declOf(f); ok {
			in.decls = append(in.decls, d)
			in.named[d.name] = d
		}
	}
	in.compare()
	in.findFounded()
	in.findReady()
	for _, row := range table {
		row.New = in.isReady(word(row.Name), decl{})
		row.Eq = in.row[row.Name].Eq
		in.row[row.Name] = row
		in.rows = append(in.rows, row)
	}
	return in
}

// declOf is what a declaration says of a type, and whether it says that of data,
// codata or a subset type.
func declOf(f api.Form) (decl, bool) {
	switch reader.Head(f) {
	case "data":
		return dataOf(f, aData), true
	case "codata":
		return dataOf(f, aCodata), true
	case "sub":
		asked := ctor{fields: f.Kids[2].Kids[1:]}
		return decl{name: f.Kids[1].Text, kind: aSub, ctors: []ctor{asked}, witness: f.Kids[4]}, true
	}
	return decl{}, false
}

// dataOf is what a declaration of data or codata says.
func dataOf(f api.Form, is int) decl {
	d := decl{name: f.Kids[1].Text, kind: is, vars: texts(f.Kids[2].Kids)}
	rest := f.Kids[3:]
	if reader.Head(rest[0]) == "eq" {
		d.eq = texts(rest[0].Kids[1:])
		rest = rest[1:]
	}
	for _, c := range rest {
		made := ctor{name: c.Kids[0].Text}
		for _, field := range c.Kids[1:] {
			made.fields = append(made.fields, field.Kids[1])
		}
		d.ctors = append(d.ctors, made)
	}
	return d
}

func texts(words []api.Form) []string {
	var l []string
	for _, w := range words {
		l = append(l, w.Text)
	}
	return l
}

// has tells whether a word is a type variable of a declaration.
func (d decl) has(name string) bool {
	return slices.Contains(d.vars, name)
}

// types are the types of all fields.
func (d decl) types() []api.Form {
	var l []api.Form
	for _, c := range d.ctors {
		l = append(l, c.fields...)
	}
	return l
}

// parts are the word that a type is or begins with, and what stands behind it.
func parts(t api.Form) (string, []api.Form) {
	if t.Kind == api.List {
		return t.Kids[0].Text, t.Kids[1:]
	}
	return t.Text, nil
}

// untilStill looks again and again, as long as a look finds something new.
func untilStill(look func() bool) {
	for look() {
	}
}
