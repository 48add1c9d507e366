package kind

import (
	"plinth/api"
	"plinth/reader"
)

// A place is what a part of a type stands as.
type place int

const (
	aType     place = iota
	aHead           // the word that a list begins with
	arguments       // the list of the arguments of a fun: it has no head
)

// placeOf is what the Kid at an index of a list stands as, if the list stands
// at a place itself.
func placeOf(list api.Form, at place, i int) place {
	switch {
	case at == arguments || list.Kids[0].Kind != api.Word:
		return aType
	case i == 0:
		return aHead
	case i == 1 && list.Kids[0].Text == "fun":
		return arguments
	}
	return aType
}

// mayReplace tells whether a form is a word that a substitution may replace.
func mayReplace(f api.Form, at place) bool {
	return f.Kind == api.Word && at != aHead
}

// kids are the Kids of a list. Other forms have none, whatever stands in
// their field.
func kids(f api.Form) []api.Form {
	if f.Kind != api.List {
		return nil
	}
	return f.Kids
}

// eachWord shows all words of a form, heads too.
func eachWord(f api.Form, show func(word string)) {
	if f.Kind == api.Word {
		show(f.Text)
	}
	for _, kid := range kids(f) {
		eachWord(kid, show)
	}
}

// eachSign shows the words of a form that are not heads, with the sign that
// they have there, if the form has one itself.
func eachSign(f api.Form, at place, sign int, show func(word string, sign int)) {
	if at == arguments {
		sign = -sign
	}
	if mayReplace(f, at) {
		show(f.Text, sign)
	}
	for i, kid := range kids(f) {
		eachSign(kid, placeOf(f, at, i), sign, show)
	}
}

// replace is a form with its words replaced, but for heads.
func replace(f api.Form, at place, by map[string]api.Form) api.Form {
	if mayReplace(f, at) {
		if to, ok := by[f.Text]; ok {
			return to
		}
	}
	if len(kids(f)) == 0 {
		return f
	}
	parts := make([]api.Form, len(f.Kids))
	for i, kid := range f.Kids {
		parts[i] = replace(kid, placeOf(f, at, i), by)
	}
	f.Kids = parts
	return f
}

// A matcher finds out what variables must become.
type matcher struct {
	vars  map[string]bool
	found map[string]api.Form
}

// match tells whether a form becomes another one, and keeps by which types.
func (m matcher) match(of, t api.Form, at place) bool {
	if mayReplace(of, at) && m.vars[of.Text] {
		known, again := m.found[of.Text]
		if again {
			return reader.Equal(known, t)
		}
		m.found[of.Text] = t
		return true
	}
	if of.Kind != api.List || t.Kind != api.List {
		return reader.Equal(of, t)
	}
	if len(of.Kids) != len(t.Kids) {
		return false
	}
	for i, kid := range of.Kids {
		if !m.match(kid, t.Kids[i], placeOf(of, at, i)) {
			return false
		}
	}
	return true
}
