package scope_test

import (
	"slices"
	"strconv"
	"strings"
)

// A plan is what a maker has decided of a declaration, member or CTOR ahead of
// its text.
type plan struct {
	head, name string
	vars, eq   []string // type variables, and those that must be comparable
	ctors      []plan
	members    []plan // the fields of a CTOR
	traits     []string
	comparable bool // of a subset type: known to be so
}

// A use is one that a maker has written: it calls, or it does not, or it is one
// of a field or member.
type use struct{ as, name, by string }

// A seen is a variable in sight.
type seen struct {
	name      string
	mayAssign bool
}

// A maker makes programs, and knows what is asked of them. In its texts a sign
// stands ahead of each thing that is wrong: @ ErrName, # ErrDup, % ErrType.
type maker struct {
	dice
	odds  int // one of so many things is wrong; 0: nothing is
	plans []plan
	uses  []use

	// where it is in a text
	by               string
	typeVars, eqVars []string
	subs             int // how many of the subset types may stand in types
	sight            []seen
	labels, marked   []string
}

// isWrong tells whether the next thing is to be wrong.
func (m *maker) isWrong() bool {
	return m.odds > 0 && m.below(m.odds) == 0
}

// isTwice tells so of a thing that stands twice, of which there are few.
func (m *maker) isTwice() bool {
	return m.odds > 0 && m.below(m.odds/9) == 0
}

// with are the names of the declarations that have one of some heads.
func (m *maker) with(heads ...string) []string {
	var names []string
	for _, d := range m.plans {
		if slices.Contains(heads, d.head) {
			names = append(names, d.name)
		}
	}
	return names
}

// at is the plan of a name.
func (m *maker) at(name string) plan {
	return m.plans[slices.IndexFunc(m.plans, func(d plan) bool { return d.name == name })]
}

// ctors are those of data, or, without a name, of all data.
func (m *maker) ctors(data string) []string {
	var names []string
	for _, d := range m.plans {
		for _, ctor := range d.ctors {
			if data == "" || d.name == data {
				names = append(names, ctor.name)
			}
		}
	}
	return names
}

// fields are the names of the fields and members of classes and traits, and of
// the fields of data, if that is asked.
func (m *maker) fields(ofData bool) []string {
	var names []string
	for _, d := range m.plans {
		lists := [][]plan{d.members}
		for _, ctor := range d.ctors {
			if ofData {
				lists = append(lists, ctor.members)
			}
		}
		for _, f := range slices.Concat(lists...) {
			names = append(names, f.name)
		}
	}
	return names
}

// has are the members of a class or trait.
func (m *maker) has(class string) []plan {
	l := slices.Clone(m.at(class).members)
	for _, t := range m.at(class).traits {
		for _, f := range m.has(t) {
			if !slices.ContainsFunc(l, func(g plan) bool { return g.name == f.name }) {
				l = append(l, f)
			}
		}
	}
	return l
}

// all are the names that a program has, and some that it has not.
func (m *maker) all() []string {
	names := append(m.ctors(""), "nowhere", "x", "v0", "k1", "g1")
	for _, d := range m.plans {
		names = append(names, d.name)
	}
	return names
}

// name is one of some names, which is used as something, or else one that is
// wrong: none of these, and none of those that are right there, too.
func (m *maker) name(as string, good []string, right ...string) string {
	if len(good) > 0 && !m.isWrong() {
		name := m.one(good...)
		if as != "" {
			m.uses = append(m.uses, use{as, name, m.by})
		}
		return name
	}
	wrong := slices.DeleteFunc(m.all(), func(s string) bool { return slices.Contains(good, s) || slices.Contains(right, s) })
	return "@" + m.one(append(wrong, "elsewhere")...)
}

// any is a text of one of some kinds.
func (m *maker) any(kinds ...func() string) string {
	return kinds[m.below(len(kinds))]()
}

// times are so many texts with blanks between.
func (m *maker) times(n int, text func() string) string {
	var l []string
	for range n {
		l = append(l, text())
	}
	return strings.Join(l, " ")
}

// visible are the variables in sight, or those of them that may be assigned.
func (m *maker) visible(mayAssign bool) []string {
	var names []string
	hidden := map[string]bool{}
	for _, v := range slices.Backward(m.sight) {
		if !hidden[v.name] && (v.mayAssign || !mayAssign) {
			names = append(names, v.name)
		}
		hidden[v.name] = true
	}
	return names
}

// inside makes a text, and takes out of sight what came into it there.
func (m *maker) inside(text func() string) string {
	sight, labels := len(m.sight), len(m.labels)
	s := text()
	m.sight, m.labels = m.sight[:sight], m.labels[:labels]
	return s
}

// bind brings variables into sight.
func (m *maker) bind(mayAssign bool, names ...string) {
	for _, name := range names {
		m.sight = append(m.sight, seen{name, mayAssign})
	}
}

// fresh are names for variables that differ. They may be names of declarations.
func (m *maker) fresh(least, most int) []string {
	var names []string
	for n := least + m.below(most-least+1); len(names) < n; {
		if name := m.one("x", "y", "v0", "v1", "v2", m.one(m.all()...)); !slices.Contains(names, name) {
			names = append(names, name)
		}
	}
	return names
}

// typed are names with types, and these names.
func (m *maker) typed(least, most int) (string, []string) {
	var l []string
	names := m.fresh(least, most)
	for _, name := range names {
		l = append(l, "("+name+" "+m.typ(2, false)+")")
	}
	return "(" + strings.Join(l, " ") + ")", names
}

// typ is a type, whose values can be compared if that is asked.
func (m *maker) typ(deep int, eq bool) string {
	if m.isWrong() {
		return m.one("@nowhere", "%(bits 0)", "(seq @nowhere)", "%(seq)", "%(set (fun () int))", "(fun (int %(bits 17)) bool)", "%(maybe int)", "%(seq 1)")
	}
	t := func() string { return m.typ(deep-1, eq) }
	key := func() string { return m.typ(deep-1, true) }
	switch kind := m.below(7); {
	case deep == 0 || kind > 3:
		return m.typeName(deep, eq)
	case kind == 0:
		return "(" + m.one("seq", "set", "bag") + " " + key() + ")"
	case kind == 1 || eq:
		return "(map " + key() + " " + t() + ")"
	case kind == 2:
		return "(imap " + key() + " " + t() + ")"
	}
	return "(fun (" + m.times(m.below(3), t) + ") " + t() + ")"
}

// typeName is a type that is a name, or a list that begins with one.
func (m *maker) typeName(deep int, eq bool) string {
	vars := m.typeVars
	if eq {
		vars = m.eqVars
	}
	names, subs := slices.Clone(vars), 0
	for _, d := range m.plans {
		fits := d.head == "data" || d.head == "codata" && !eq || d.head == "class" || d.head == "trait"
		if d.head == "sub" {
			fits = subs < m.subs && (d.comparable || !eq)
			subs++
		}
		if fits && !slices.Contains(m.typeVars, d.name) && (deep > 0 || len(d.vars) == 0) {
			names = append(names, d.name)
		}
	}
	if len(names) == 0 || m.below(3) == 0 {
		return m.one("int", "bool", "(bits 3)")
	}
	name := m.one(names...)
	if slices.Contains(vars, name) {
		return name
	}
	m.uses = append(m.uses, use{"name", name, m.by})
	d := m.at(name)
	if len(d.vars) > 0 {
		return "(" + name + " " + m.times(len(d.vars), func() string { return m.typ(deep-1, eq) }) + ")"
	}
	if (d.head == "class" || d.head == "trait") && m.below(2) == 0 {
		return "(maybe " + name + ")"
	}
	return name
}

// expr is an expression.
func (m *maker) expr(deep int) string {
	e := func() string { return m.expr(deep - 1) }
	if deep <= 0 {
		return m.leaf()
	}
	functions, fixed := m.with("function", "predicate"), m.with("least", "greatest")
	callable := slices.Concat(functions, fixed, m.with("twostate"))
	switch kind := m.below(20); {
	case kind < 2:
		return "(" + m.one("+", "=", "cat", "at", "<") + " " + e() + " " + e() + ")"
	case kind == 2:
		return "(if " + e() + " " + e() + " " + e() + ")"
	case kind < 6 && len(callable) > 0:
		return "(call " + m.name("call", callable) + m.of() + " " + m.times(m.below(3), e) + ")"
	case kind == 6 && len(fixed) > 0:
		return "(prefix " + m.name("call", fixed) + " " + e() + ")"
	case kind == 7 && len(functions) > 0:
		return "(fuel 2 " + m.name("name", functions) + " " + e() + ")"
	case kind == 8 && len(m.ctors("")) > 0:
		return "(make " + m.name("name", m.ctors("")) + m.of() + " " + m.times(m.below(3), e) + ")"
	case kind == 9 && len(m.ctors("")) > 0:
		return "(is " + m.name("name", m.ctors("")) + " " + e() + ")"
	case kind < 12 && len(m.fields(true)) > 0:
		return "(get " + m.name("get", m.fields(true)) + " " + e() + ")"
	case kind == 12 && (len(m.labels) > 0 || m.isWrong()):
		return "(old " + m.name("", m.labels) + " " + e() + ")"
	case kind == 13:
		return "(map (" + e() + " " + e() + "))"
	case kind == 14:
		return "(empty " + m.typ(2, false) + ")"
	case kind == 15:
		return "(imap " + e() + " " + m.typ(1, true) + ")"
	}
	return m.inside(func() string { return m.binder(e) })
}

// leaf is an expression without parts.
func (m *maker) leaf() string {
	if names := m.visible(false); len(names) > 0 && m.below(3) > 0 || m.isWrong() {
		return m.name("", names)
	}
	return m.one("1", "true", "null", "(and)", "(bits 2 1)")
}

// of are types ahead of arguments, or nothing.
func (m *maker) of() string {
	if m.below(3) > 0 {
		return ""
	}
	return " (of " + m.typ(1, false) + ")"
}

// binder is an expression that may bind names.
func (m *maker) binder(e func() string) string {
	x := m.fresh(1, 1)[0]
	switch kind := m.below(4); {
	case kind == 0:
		s := "(" + m.one("let", "every", "any") + " (" + x + " " + e() + ") "
		m.bind(false, x)
		return s + e() + ")"
	case kind == 1:
		head, n := m.one("pick", "all", "some"), 1
		if head == "pick" {
			n = 2
		}
		s := "(" + head + " (" + x + " " + e() + " " + e() + ") "
		m.bind(false, x)
		return s + m.times(n, e) + ")"
	case kind == 2:
		list, names := m.typed(1, 2)
		m.bind(false, names...)
		if m.below(2) == 0 {
			return "(fn " + list + " " + e() + ")"
		}
		return "(" + m.one("forall", "exists") + " " + list + " " + m.times(m.below(2), func() string { return "(trigger " + e() + ")" }) + " " + e() + ")"
	case len(m.ctors("")) > 0:
		return "(match " + e() + m.arms(e) + ")"
	}
	return "(not " + e() + ")"
}

// arms are those of a match or case.
func (m *maker) arms(part func() string) string {
	s := ""
	var done []string
	data := m.one(m.with("data", "codata")...)
	for range 1 + m.below(3) {
		isDone := func(ctor string) bool { return slices.Contains(done, ctor) }
		ctor, right := "", m.ctors(data)
		left := slices.DeleteFunc(m.ctors(data), isDone)
		switch {
		case len(done) > 0 && m.isTwice():
			ctor = "#" + m.one(done...)
		case len(left) == 0:
			return s
		case len(done) == 0:
			ctor = m.name("name", left, m.ctors("")...)
		default:
			ctor = m.name("name", left, right...)
		}
		s += m.inside(func() string {
			names := m.fresh(0, 2)
			m.bind(false, names...)
			return " (" + ctor + " (" + strings.Join(names, " ") + ") " + part() + ")"
		})
		if strings.HasPrefix(ctor, "@") {
			return s
		}
		done = append(done, strings.TrimPrefix(ctor, "#"))
	}
	return s
}

// stmts are statements side by side, each one with so many others in it.
func (m *maker) stmts(deep int) string {
	return m.inside(func() string { return m.times(m.below(4), func() string { return m.stmt(deep) }) })
}

// stmt is a statement.
func (m *maker) stmt(deep int) string {
	e := func() string { return m.expr(2) }
	l := func() string { return m.stmts(deep - 1) }
	kind := m.below(13)
	switch {
	case deep > 0 && kind < 7:
		return m.nested(kind, e, l)
	case kind == 7:
		s, name := "(var ", m.fresh(1, 1)[0]
		s += name + " " + m.typ(2, false)
		if m.below(2) == 0 {
			s += " " + e()
		}
		m.bind(true, name)
		return s + ")"
	case kind == 8:
		return m.inside(func() string { return m.ranged(e) })
	case kind == 9 && len(m.fields(false)) > 0:
		s := "(send (" + strings.Join(m.someAssigned(), " ") + ") " + e() + " "
		return s + m.name("send", m.fields(false)) + " " + e() + ")"
	case kind == 10 && len(m.fields(false)) > 0:
		s := "(store " + e() + " "
		return s + m.name("store", m.fields(false)) + " " + e() + ")"
	case kind == 11 && len(m.with("function", "predicate")) > 0:
		return "(reveal " + m.name("name", m.with("function", "predicate")) + ")"
	}
	if methods := m.with("method", "lemma", "extern"); len(methods) > 0 && m.below(2) == 0 {
		s := "(call (" + strings.Join(m.someAssigned(), " ") + ") "
		return s + m.name("call", methods) + " " + e() + ")"
	}
	if names := m.visible(true); len(names) > 0 || m.isWrong() {
		return m.assigning(m.name("", names), e)
	}
	return "(" + m.one("assume", "expect", "assert") + " " + e() + ")"
}

// someAssigned are names that are assigned at once.
func (m *maker) someAssigned() []string {
	names := m.visible(true)
	if len(names) == 0 || m.below(2) == 0 {
		return nil
	}
	first, second := m.name("", names), m.name("", names)
	if strings.Trim(first, "@") == strings.Trim(second, "@") {
		return []string{first}
	}
	return []string{first, second}
}

// assigning is a statement that assigns a variable.
func (m *maker) assigning(x string, e func() string) string {
	classes := m.with("class")
	switch {
	case m.below(3) == 0:
		return "(set " + x + " " + e() + ")"
	case len(classes) == 0 || m.below(2) == 0:
		return "(choose " + x + " " + m.times(3, e) + ")"
	}
	class := m.name("name", classes)
	s := "(new " + x + " " + class
	if strings.HasPrefix(class, "@") {
		return s + ")"
	}
	var fields []string
	for _, f := range m.has(class) {
		if f.head == "field" {
			fields = append(fields, f.name)
		}
	}
	if len(fields) > 0 || m.isWrong() {
		s += " (" + m.name("new", fields) + " " + e() + ")"
	}
	return s + ")"
}

// ranged is a statement for all numbers of a range.
func (m *maker) ranged(e func() string) string {
	x := m.fresh(1, 1)[0]
	range1 := " (" + x + " " + e() + " " + e() + ") "
	m.bind(false, x)
	switch lemmas, fields := m.with("lemma"), m.fields(false); {
	case len(lemmas) > 0 && m.below(2) == 0:
		s := "(lemma" + range1 + "(requires " + e() + ") "
		return s + m.name("call", lemmas) + " " + e() + ")"
	case len(fields) > 0:
		s := "(each" + range1 + "(store " + e() + " "
		return s + m.name("store", fields) + " " + e() + "))"
	}
	return "(assert (all" + range1 + e() + "))"
}

// nested is a statement with statements in it.
func (m *maker) nested(kind int, e, l func() string) string {
	switch kind {
	case 0:
		label, sign := "k"+strconv.Itoa(m.below(9)), ""
		if slices.Contains(m.marked, label) {
			if !m.isTwice() {
				return "(leave)"
			}
			sign = "#"
		}
		m.marked, m.labels = append(m.marked, label), append(m.labels, label)
		return "(label " + sign + label + " " + l() + ")"
	case 1:
		return "(if " + e() + " (" + l() + ") (" + l() + "))"
	case 2:
		clause := m.any(func() string { return "" }, func() string { return "(invariant " + e() + ")" }, func() string { return "(decreases " + e() + ") (modifies " + e() + ")" })
		return "(while " + e() + " (" + clause + ") " + l() + ")"
	case 3:
		return "(" + m.one("ghost", "block") + " " + l() + ")"
	case 4:
		return "(assert " + e() + " (by " + l() + "))"
	case 5:
		return "(calc " + e() + " (" + m.one("=", "=>") + " " + e() + " (by " + l() + ")) (<= " + e() + "))"
	}
	if len(m.ctors("")) == 0 {
		return "(block " + l() + ")"
	}
	return "(case " + e() + m.arms(l) + ")"
}
