package kind

import (
	"slices"

	"plinth/api"
	"plinth/reader"
)

// What a row's name is the name of.
const (
	aData = 1 + iota
	aCodata
	aClass
	aTrait
	aSubset
	aVariable
)

const (
	maxArguments = 4  // of data and codata
	maxBits      = 16 // of (bits N)
)

// A glossary has the rows of a table by their names.
type glossary map[string]Row

// glossaryOf stops with ErrArg at a row that is not as rows must be.
func glossaryOf(table []Row) glossary {
	g := glossary{}
	for _, row := range table {
		_, twice := g[row.Name]
		must(!twice && isName(row.Name) && hasRange(row), api.ErrArg)
		g[row.Name] = row
	}
	return g
}

func hasRange(row Row) bool {
	switch row.Kind {
	case aData, aCodata:
		return 0 <= row.N && row.N <= maxArguments
	case aClass, aTrait, aSubset, aVariable:
		return row.N == 0
	}
	return false
}

// isName tells whether a word may be the name of a type or a variable.
func isName(s string) bool {
	return reader.Valid(api.Form{Kind: api.Word, Text: s}) && !isReserved(s)
}

func isReserved(s string) bool {
	switch s {
	case "int", "bool", "bits", "seq", "set", "bag", "map", "imap", "fun", "maybe":
		return true
	}
	return false
}

// checkWhole stops with the first error of a form that ought to be a type.
func (g glossary) checkWhole(t api.Form) {
	must(reader.Valid(t), api.ErrArg)
	g.check(t)
}

// check does so for a part of a valid form.
func (g glossary) check(t api.Form) {
	switch {
	case t.Kind == api.List:
		g.checkList(t)
	case t.Kind != api.Word:
		panic(api.ErrArg)
	case t.Text != "int" && t.Text != "bool":
		g.checkName(t.Text, 0)
	}
}

// checkName asks for a name that takes so many arguments.
func (g glossary) checkName(name string, arguments int) {
	row, ok := g[name]
	must(ok, api.ErrName)
	must(row.N == arguments, api.ErrType)
}

// checkList asks a list outside ahead of inside, and then what can be asked of
// its parts only once they are types.
func (g glossary) checkList(t api.Form) {
	must(hasShape(t), api.ErrArg)
	head := reader.Head(t)
	switch head {
	case "bits":
		must(1 <= t.Kids[1].N && t.Kids[1].N <= maxBits, api.ErrType)
		return
	case "seq", "set", "bag", "map", "imap", "fun", "maybe":
	default:
		g.checkName(head, len(t.Kids)-1)
	}
	for _, part := range typesIn(t) {
		g.check(part)
	}
	switch head {
	case "set", "bag", "map", "imap":
		must(g.comparable(t.Kids[1]), api.ErrType)
	case "maybe":
		must(isObject(g[t.Kids[1].Text]), api.ErrType)
	}
}

// hasShape tells whether a list has the Kids that its head asks for.
func hasShape(t api.Form) bool {
	arguments := len(t.Kids) - 1
	switch reader.Head(t) {
	case "":
		return false
	case "bits":
		return arguments == 1 && t.Kids[1].Kind == api.Num
	case "maybe":
		return arguments == 1 && t.Kids[1].Kind == api.Word
	case "seq", "set", "bag":
		return arguments == 1
	case "map", "imap":
		return arguments == 2
	case "fun":
		return arguments == 2 && t.Kids[1].Kind == api.List
	}
	return arguments >= 1
}

// typesIn are the types that stand directly in a list that has its shape, from
// the front.
func typesIn(t api.Form) []api.Form {
	if reader.Head(t) == "fun" {
		return slices.Concat(t.Kids[1].Kids, t.Kids[2:])
	}
	return t.Kids[1:]
}

// isObject tells whether the values of a row's name are objects.
func isObject(row Row) bool {
	return row.Kind == aClass || row.Kind == aTrait
}

// comparable does what Comparable does, of a type that is let.
func (g glossary) comparable(t api.Form) bool {
	if t.Kind == api.Word {
		return t.Text == "int" || t.Text == "bool" || canCompare(g[t.Text])
	}
	switch head := reader.Head(t); head {
	case "bits", "maybe":
		return true
	case "fun", "imap":
		return false
	default:
		return (isReserved(head) || canCompare(g[head])) && g.allComparable(typesIn(t))
	}
}

func (g glossary) allComparable(l []api.Form) bool {
	return !slices.ContainsFunc(l, func(t api.Form) bool { return !g.comparable(t) })
}

// canCompare tells whether the values of a row's name can be compared, as far
// as the name tells it.
func canCompare(row Row) bool {
	return isObject(row) || row.Kind != aCodata && row.Eq
}

// ready does what Ready does, of a type that is let.
func (g glossary) ready(t api.Form) bool {
	name := t.Text
	if t.Kind == api.List {
		name = reader.Head(t)
	}
	if isReserved(name) {
		return name != "fun"
	}
	row := g[name]
	return !isObject(row) && row.New
}
