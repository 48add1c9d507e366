package inhabit

import (
	"slices"

	"plinth/api"
	"plinth/kind"
)

// compare finds out of which data and subset types values can be compared. Scope's
// rows take all data to be so. One after the other turns out not to be, and then
// those that it stands in are not either.
func (in *program) compare() {
	untilStill(func() bool {
		fell := false
		for _, d := range in.decls {
			if in.row[d.name].Eq && !in.allComparable(d) {
				in.deny(d.name)
				fell = true
			}
		}
		return fell
	})
}

// deny says that values of a name cannot be compared.
func (in *program) deny(name string) {
	row := in.row[name]
	row.Eq = false
	in.row[name] = row
}

// allComparable tells whether values of all types in a declaration can be
// compared, as far as is known.
func (in *program) allComparable(d decl) bool {
	return !slices.ContainsFunc(d.types(), func(t api.Form) bool { return !in.comparable(d, t) })
}

// comparable tells whether values of a type in a declaration can be compared, as
// far as is known.
func (in *program) comparable(d decl, t api.Form) bool {
	var rows []kind.Row
	for _, name := range kind.Names(t) {
		if d.has(name) {
			rows = append(rows, kind.Row{Name: name, Kind: aVariable, Eq: slices.Contains(d.eq, name)})
		} else {
			rows = append(rows, in.row[name])
		}
	}
	return kind.Comparable(t, rows)
}
