package inhabit_test

import (
	"slices"
	"strconv"
	"strings"
	"testing"

	"plinth/api"
	"plinth/inhabit"
	"plinth/kind"
	"plinth/reader"
)

// A single is a program in which each data with arguments is one of its own: the
// types that are met, and what is declared for them. They may be without end.
type single struct {
	of      *book
	types   []string
	decls   []string
	tooMany bool
}

// name is that of a type: (NAME T ..) is NAME_i, all else is told part by part.
func (s *single) name(t api.Form) string {
	d, arguments, isPlan := s.of.plan(t)
	switch {
	case isPlan:
		text := reader.Write(t)
		at := slices.Index(s.types, text)
		s.tooMany = s.tooMany || len(s.types) == 40 || reader.Size(t) > 100
		if at < 0 && !s.tooMany {
			at = len(s.types)
			s.types, s.decls = append(s.types, text), append(s.decls, "")
			s.decls[at] = s.decl(d, arguments, "_"+strconv.Itoa(at))
		}
		return d.name + "_" + strconv.Itoa(at)
	case t.Kind != api.List || reader.Head(t) == "bits":
		return reader.Write(t)
	case reader.Head(t) == "fun":
		return "(fun (" + s.names(t.Kids[1].Kids) + ") " + s.name(t.Kids[2]) + ")"
	}
	return "(" + s.names(t.Kids) + ")"
}

func (s *single) names(types []api.Form) string {
	var l []string
	for _, t := range types {
		l = append(l, s.name(t))
	}
	return strings.Join(l, " ")
}

// decl is the declaration of a plan with arguments.
func (s *single) decl(d plan, arguments []api.Form, mark string) string {
	own := plan{head: d.head, name: d.name + mark}
	for i, fields := range d.unfolded(arguments) {
		c := made{name: d.ctors[i].name + mark}
		for _, t := range fields {
			c.types = append(c.types, form(s.name(t)))
		}
		own.ctors = append(own.ctors, c)
	}
	return own.text()
}

// back is a text of the single program with the names of the other one.
func (s *single) back(text string) string {
	for i, t := range slices.Backward(s.types) {
		d, _, _ := s.of.plan(form(t))
		text = strings.ReplaceAll(text, d.name+"_"+strconv.Itoa(i), t)
		for _, c := range d.ctors {
			text = strings.ReplaceAll(text, c.name+"_"+strconv.Itoa(i), c.name)
		}
	}
	return text
}

// withoutOf is a witness without its lists of types behind make.
func withoutOf(w api.Form) api.Form {
	var kids []api.Form
	for _, kid := range w.Kids {
		if reader.Head(kid) != "of" {
			kids = append(kids, withoutOf(kid))
		}
	}
	w.Kids = kids
	return w
}

// P9.2: the rounds of a witness are those in which its data would be ready if each
// one with its arguments were declared by itself.
func TestWitnessOfSingles(t *testing.T) {
	tried, nested := 0, 0
	eachMade(t, 7, 2500, func(m *maker, p []api.Form, b *book) {
		table, _ := inhabit.Table(p)
		for range 3 {
			of := m.dataWithArguments()
			w, err := inhabit.Witness(p, of)
			s := &single{of: b}
			name := s.name(of)
			if kind.Check(of, table) != api.OK || err != api.OK || s.tooMany {
				continue
			}
			alone := forms("(class C () (field x int)) (trait R ()) " + strings.Join(s.decls, " "))
			got := s.back(told(inhabit.Witness(alone, form(name))))
			if want := reader.Write(withoutOf(w)); got != want {
				t.Fatalf("Witness %s of %s: %s, but single %s", reader.Write(of), written(p...), want, got)
			}
			tried++
			if strings.Count(told(w, err), "(of ") > 1 {
				nested++
			}
		}
	})
	if tried < 1000 || nested < 50 {
		t.Errorf("too little was tried: %d, %d", tried, nested)
	}
}
