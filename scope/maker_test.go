package scope_test

import (
	"slices"
	"strconv"
	"strings"
)

// program decides what a program declares, and makes its declarations.
func (m *maker) program() []string {
	m.plans, m.uses = nil, nil
	heads := []string{"data", "data", "codata", "sub", "sub", "trait", "trait", "class", "class", "function", "function", "predicate", "twostate", "least", "greatest", "method", "method", "lemma", "extern"}
	for range 3 + m.below(9) {
		m.plans = append(m.plans, m.plan(m.one(heads...), "n"+strconv.Itoa(len(m.plans))))
	}
	var decls []string
	subs := 0
	for _, d := range m.plans {
		m.by, m.typeVars, m.eqVars, m.sight, m.labels, m.marked, m.subs = d.name, d.vars, d.eq, nil, nil, nil, len(m.plans)
		if d.head == "sub" {
			m.subs = subs
			subs++
		}
		decls = append(decls, m.decl(d))
	}
	return decls
}

// plan decides what a declaration is.
func (m *maker) plan(head, name string) plan {
	d := plan{head: head, name: name}
	names := func(from string) []string {
		var l []string
		for i := range 3 {
			if m.below(2) == 0 {
				l = append(l, from+strconv.Itoa(i))
			}
		}
		return l
	}
	switch head {
	case "data", "codata":
		d.vars = append(names("a"), names("n")...)
		d.vars = d.vars[:min(4, len(d.vars))]
		d.eq = d.vars[m.below(len(d.vars)+1):]
		for i := range 1 + m.below(3) {
			ctor := plan{name: name + "c" + strconv.Itoa(i)}
			for _, field := range names("g") {
				ctor.members = append(ctor.members, plan{name: field})
			}
			d.ctors = append(d.ctors, ctor)
		}
	case "trait", "class":
		for _, t := range m.with("trait") {
			if m.below(2) == 0 {
				d.traits = append(d.traits, t)
			}
		}
		for _, member := range append(names("g"), names("h")...) {
			d.members = append(d.members, plan{head: m.one("field", "field", "function", "predicate", "twostate", "method", "lemma"), name: member})
		}
	case "function", "predicate":
		d.vars = append(names("a"), names("n")...)
	case "sub":
		d.comparable = m.below(2) == 0
	}
	return d
}

// decl is a declaration as a text.
func (m *maker) decl(d plan) string {
	s := "(" + d.head + " " + d.name + " "
	switch d.head {
	case "data", "codata":
		if s += "(" + strings.Join(d.vars, " ") + ")"; len(d.eq) > 0 {
			s += " (eq " + strings.Join(d.eq, " ") + ")"
		}
		for _, ctor := range d.ctors {
			s += " (" + ctor.name
			for _, field := range ctor.members {
				s += " (" + field.name + " " + m.typ(2, false) + ")"
			}
			s += ")"
		}
		return s + ")"
	case "sub":
		x := m.fresh(1, 1)[0]
		odds := m.odds
		if d.comparable { // so it is no longer if its type is wrong, which others notice
			m.odds = 0
		}
		s += "(" + x + " " + m.typ(2, d.comparable) + ") "
		m.odds = odds
		m.bind(false, x)
		return s + m.expr(3) + " " + m.expr(2) + ")"
	case "trait", "class":
		return s + m.class(d) + ")"
	}
	if len(d.vars) > 0 {
		s += "(tp " + strings.Join(d.vars, " ") + ") "
	}
	return m.ghost(d.head, s+m.callable(d.head)+")")
}

// ghost is a declaration or member, which may stand in ghost.
func (m *maker) ghost(head, s string) string {
	if slices.Contains([]string{"field", "function", "predicate", "method"}, head) && m.below(3) == 0 {
		return "(ghost " + s + ")"
	}
	return s
}

// class is what stands behind the name of a class or trait.
func (m *maker) class(d plan) string {
	var traits []string
	for _, t := range d.traits {
		m.uses = append(m.uses, use{"name", t, m.by})
		if traits = append(traits, t); m.isTwice() {
			traits = append(traits, "#"+t)
		}
	}
	if m.isWrong() {
		traits = append(traits, m.name("", nil, m.with("trait")...))
	}
	s := "(" + strings.Join(traits, " ") + ")"
	for _, f := range d.members {
		m.by, m.sight, m.labels, m.marked = d.name+"."+f.name, []seen{{"this", false}}, nil, nil
		member := "(" + f.head + " " + f.name + " "
		if f.head == "field" {
			member += m.typ(2, false)
		} else {
			member += m.callable(f.head)
		}
		s += " " + m.ghost(f.head, member+")")
	}
	return s
}

// callable is what stands behind the name, and the type variables, of a callable
// declaration.
func (m *maker) callable(head string) string {
	params, names := m.typed(0, 3)
	m.bind(false, names...)
	switch head {
	case "least", "greatest":
		return params + " " + m.expr(4)
	case "method", "lemma", "extern":
		before := m.uses
		results, more := m.typed(0, 2)
		if slices.ContainsFunc(more, func(name string) bool { return slices.Contains(names, name) }) {
			results, more, m.uses = "()", nil, before
		}
		s := params + " " + results + m.clauses("modifies", more, true)
		if head == "extern" && m.isWrong() {
			return s + " @(body)"
		}
		if head == "extern" || m.below(6) == 0 {
			return s
		}
		m.bind(true, more...)
		return s + " (body " + m.stmts(3) + ")"
	case "function":
		params += " " + m.typ(2, false)
	}
	s := params + m.clauses("reads", []string{"result"}, false)
	switch m.below(4) {
	case 0:
		return s
	case 1:
		by := m.inside(func() string {
			if m.below(2) == 0 {
				return m.stmts(2) + " (set result " + m.expr(2) + ")"
			}
			return m.stmts(2)
		})
		s += " (by " + by + ")"
	}
	return s + " " + m.expr(4)
}

// clauses are those of a callable declaration. The results are in sight in its
// ensures.
func (m *maker) clauses(frame string, results []string, mayAssign bool) string {
	s := ""
	for range m.below(4) {
		switch m.below(4) {
		case 0:
			s += " (requires " + m.expr(3) + ")"
		case 1:
			s += m.inside(func() string {
				m.bind(mayAssign, results...)
				return " (ensures " + m.expr(3) + ")"
			})
		case 2:
			s += " (" + frame + " " + m.times(m.below(3), func() string { return m.expr(2) }) + ")"
		case 3:
			if !strings.Contains(s, "(decreases") {
				s += " (decreases " + m.expr(2) + ")"
			}
		}
	}
	return s
}
