package scope

import (
	"plinth/api"
	"plinth/kind"
)

// The Kinds of rows.
const (
	aData = 1 + iota
	aCodata
	aClass
	aTrait
	aSub
	aVariable
)

const maxTypeVars = 4 // of data and codata

// rowOf is the row of a declaration, and whether it has one. Whether values of a
// subset type can be compared is still to be found.
func rowOf(d decl) (kind.Row, bool) {
	row := kind.Row{Name: d.name}
	switch d.head() {
	case "data":
		row.Kind, row.N, row.Eq, row.New = aData, len(d.typeVars()), true, true
	case "codata":
		row.Kind, row.N, row.New = aCodata, len(d.typeVars()), true
	case "class":
		row.Kind = aClass
	case "trait":
		row.Kind = aTrait
	case "sub":
		row.Kind, row.New = aSub, true
	}
	return row, row.Kind != 0 && row.N <= maxTypeVars
}

// findRows makes the rows of all types.
func (s *program) findRows() {
	for name, d := range s.named {
		if row, ok := rowOf(d); ok {
			s.rows[name] = row
		}
	}
	asked := map[string]bool{}
	var ask func(name string)
	ask = func(name string) {
		d := s.named[name]
		if asked[name] || !d.is("sub") {
			return
		}
		asked[name] = true
		t := d.held.Kids[2].Kids[1]
		for _, other := range kind.Names(t) {
			ask(other)
		}
		// In a circle one is met that is asked already, and not found yet: its
		// row says no, and so will those of all others.
		row := s.rows[name]
		row.Eq = kind.Comparable(t, s.rowsIn(t, nil))
		s.rows[name] = row
	}
	for name := range s.named {
		ask(name)
	}
}

// rowsIn are the rows of the names that stand in a type, where type variables
// hide all else.
func (s *program) rowsIn(t api.Form, vars map[string]kind.Row) []kind.Row {
	var rows []kind.Row
	for _, name := range kind.Names(t) {
		row, ok := vars[name]
		if !ok {
			row, ok = s.rows[name]
		}
		if ok {
			rows = append(rows, row)
		}
	}
	return rows
}
