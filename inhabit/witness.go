package inhabit

import (
	"slices"

	"plinth/api"
	"plinth/kind"
	"plinth/reader"
)

// A maker makes witnesses. It stops where a witness has more parts than a form may
// have: there may be very many of them.
type maker struct {
	*readiness
	left int
}

// witness is that of a type, and whether there is one. Data are asked for only if
// they are ready by their name alone, but an imap is ready whatever its value is:
// that is made if it is ready with its arguments put in.
func (in *program) witness(t api.Form) (api.Form, bool) {
	m := &maker{readiness: in.findWays(), left: api.MaxForm}
	if !kind.Ready(t, in.rows) || len(m.of(t, nil)) == 0 {
		return api.Form{}, false
	}
	w, ok := m.witness(t)
	if !ok || !reader.Valid(w) {
		return api.Form{}, false
	}
	return w, true
}

// take takes the parts of forms off those that are left, and tells whether there
// are enough.
func (m *maker) take(l ...api.Form) bool {
	for _, f := range l {
		m.left--
		if m.left < 0 || !m.take(f.Kids...) {
			return false
		}
	}
	return true
}

// witness is that of a type that is ready, with its arguments put in, and whether
// it could be made.
func (m *maker) witness(t api.Form) (api.Form, bool) {
	var w api.Form
	name, behind := parts(t)
	switch name {
	case "int":
		w = zero()
	case "bool":
		w = word("false")
	case "maybe":
		w = word("null")
	case "bits":
		w = list(word("bits"), behind[0], zero())
	case "seq", "set", "bag", "map":
		w = list(word("empty"), t)
	case "imap":
		value, ok := m.witness(behind[1])
		return list(word("imap"), value, behind[0]), ok
	default:
		d := m.in.named[name]
		if d.kind != aSub {
			return m.made(d, behind)
		}
		w = d.witness
	}
	return w, m.take(w)
}

// made is the witness of data with arguments, and whether it could be made.
func (m *maker) made(d decl, arguments []api.Form) (api.Form, bool) {
	kids := []api.Form{word("make")}
	if len(arguments) > 0 {
		kids = append(kids, list(append([]api.Form{word("of")}, arguments...)...))
	}
	if !m.take(kids...) {
		return api.Form{}, false
	}
	by := d.pairs(arguments)
	c := m.firstCtor(d, arguments)
	kids = slices.Insert(kids, 1, word(c.name))
	for _, t := range c.fields {
		w, ok := m.witness(kind.Apply(t, by))
		if !ok {
			return api.Form{}, false
		}
		kids = append(kids, w)
	}
	return list(kids...), true
}

// pairs put arguments in the place of type variables.
func (d decl) pairs(arguments []api.Form) []kind.Pair {
	var by []kind.Pair
	for i, v := range d.vars {
		by = append(by, kind.Pair{Name: v, To: arguments[i]})
	}
	return by
}

func zero() api.Form                 { return api.Form{Kind: api.Num} }
func word(s string) api.Form         { return api.Form{Kind: api.Word, Text: s} }
func list(kids ...api.Form) api.Form { return api.Form{Kind: api.List, Kids: kids} }
