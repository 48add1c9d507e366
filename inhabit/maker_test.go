package inhabit_test

import (
	"slices"
	"strconv"
	"strings"

	"plinth/api"
	"plinth/reader"
)

// A plan is a declaration of data, codata or a subset type that is made.
type plan struct {
	head, name string
	vars, eq   []string
	// comparable says of a subset type that scope finds its values comparable.
	comparable bool
	ctors      []made
}

// A made is a CTOR of a plan, or what stands in a subset type.
type made struct {
	name  string
	types []api.Form
}

// A maker makes programs of data, codata, subset types and a class.
type maker struct {
	dice
	plans []plan
	at    int // the plan that is made
}

// program decides what a program declares, and makes it.
func (m *maker) program() []api.Form {
	m.plans = nil
	for i := range 2 + m.below(5) {
		d := plan{head: m.one("data", "data", "data", "data", "codata", "sub"), name: "d" + strconv.Itoa(i), comparable: m.below(2) == 0}
		for _, v := range []string{"a", "b"} {
			if d.head != "sub" && m.below(3) == 0 {
				d.vars = append(d.vars, v)
			}
		}
		d.eq = d.vars[m.below(len(d.vars)+1):]
		m.plans = append(m.plans, d)
	}
	for i := range m.plans {
		m.at = i
		m.fill(&m.plans[i])
	}
	p := forms("(class C () (field x int)) (trait R ())")
	for _, d := range m.plans {
		p = append(p, form(d.text()))
	}
	return m.shuffled(p)
}

// fill decides what stands in a declaration.
func (m *maker) fill(d *plan) {
	if d.head == "sub" {
		d.ctors = []made{{types: []api.Form{form(m.typ(2, d.comparable))}}}
		return
	}
	for i := range 1 + m.below(3) {
		c := made{name: d.name + "c" + strconv.Itoa(i)}
		for range m.below(4) - 1 {
			c.types = append(c.types, form(m.typ(m.below(3), false)))
		}
		d.ctors = append(d.ctors, c)
	}
}

// text is a declaration as a text.
func (d plan) text() string {
	s := "(" + d.head + " " + d.name
	if d.head == "sub" {
		t := reader.Write(d.ctors[0].types[0])
		return s + " (x " + t + ") true (look (empty (map int " + t + ")) 0))"
	}
	s += " (" + strings.Join(d.vars, " ") + ")"
	if len(d.eq) > 0 {
		s += " (eq " + strings.Join(d.eq, " ") + ")"
	}
	for _, c := range d.ctors {
		s += " (" + c.name
		for i, t := range c.types {
			s += " (x" + strconv.Itoa(i) + " " + reader.Write(t) + ")"
		}
		s += ")"
	}
	return s + ")"
}

// typ is a type that may stand in the plan that is made. If it must be comparable,
// it is so for scope, which takes all data to be so.
func (m *maker) typ(deep int, comparable bool) string {
	if deep == 0 || m.below(4) == 0 {
		return m.word(comparable)
	}
	t := func() string { return m.typ(deep-1, comparable) }
	set := func() string { return m.typ(deep-1, true) }
	switch m.below(14) {
	case 0:
		return "(seq " + t() + ")"
	case 1:
		return "(" + m.one("set", "bag") + " " + set() + ")"
	case 2:
		return "(map " + set() + " " + t() + ")"
	case 3:
		if !comparable {
			return "(imap " + set() + " " + t() + ")"
		}
	case 4, 5:
		if !comparable {
			return "(fun (" + strings.Join([]string{t(), t()}[m.below(3):2], " ") + ") " + t() + ")"
		}
	}
	d := m.plans[m.below(len(m.plans))]
	if d.head == "sub" || comparable && d.head == "codata" {
		return t()
	}
	return m.applied(d, deep-1, comparable)
}

// applied is data with arguments.
func (m *maker) applied(d plan, deep int, comparable bool) string {
	if len(d.vars) == 0 {
		return d.name
	}
	s := "(" + d.name
	for _, v := range d.vars {
		s += " " + m.typ(deep, comparable || slices.Contains(d.eq, v))
	}
	return s + ")"
}

// word is a type that stands without arguments, mostly.
func (m *maker) word(comparable bool) string {
	words := []string{"int", "bool", "bool", "(bits 1)", "(bits 3)", "C", "(maybe C)", "R"}
	here := m.plans[m.at]
	for _, v := range here.vars {
		if !comparable || slices.Contains(here.eq, v) {
			words = append(words, v, v, v, v)
		}
	}
	for i, d := range m.plans {
		switch {
		case len(d.vars) > 0:
		case d.head == "data", d.head == "codata" && !comparable:
			words = append(words, d.name, d.name)
		case d.head == "sub" && (i < m.at || here.head != "sub") && (d.comparable || !comparable):
			words = append(words, d.name)
		}
	}
	return m.one(words...)
}

// closed is a type without type variables.
func (m *maker) closed(deep int) api.Form {
	m.plans = append(m.plans, plan{head: "none", name: "none", vars: []string{"none"}})
	m.at = len(m.plans) - 1
	s := "none"
	for strings.Contains(s, "none") {
		s = m.typ(deep, false)
	}
	m.plans = m.plans[:m.at]
	return form(s)
}

// dataWithArguments is a type without type variables, mostly of data with
// arguments.
func (m *maker) dataWithArguments() api.Form {
	of := m.closed(2)
	for i := 0; i < 10 && !strings.HasPrefix(reader.Write(of), "(d"); i++ {
		of = m.closed(3)
	}
	return of
}
