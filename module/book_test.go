package module_test

import (
	"regexp"
	"slices"
	"strconv"
	"strings"

	"plinth/api"
)

// A made declaration or member, from which its text follows. In texts @ stands
// ahead of names that are used, and ! ahead of those that are declared.
type decl struct {
	ghost      bool
	head, name string
	sig        string   // params, results, type, or the traits of a class
	clauses    []string // those that are no ensures: all ahead of them
	ensures    []string
	body       string
	members    []decl
	ctors      []string // of data
	vars       []string // type variables, which hide names
}

// uses are the names that a declaration uses.
func (d decl) uses() []string {
	var names []string
	for _, s := range marks().FindAllString(d.text("!"), -1) {
		if s[0] == '@' && !slices.Contains(d.vars, s[1:]) {
			names = append(names, s[1:])
		}
	}
	return names
}

// isWhole tells whether a declaration is refined by an equal one alone.
func (d decl) isWhole() bool {
	return slices.Contains([]string{"data", "codata", "sub", "trait", "field"}, d.head) || strings.HasPrefix(d.sig, "(tp")
}

func (d decl) text(mark string) string {
	parts := []string{d.head, mark + d.name, d.sig}
	parts = append(append(append(parts, d.clauses...), d.ensures...), d.body)
	for _, m := range d.members {
		parts = append(parts, m.text(""))
	}
	isEmpty := func(s string) bool { return s == "" }
	s := "(" + strings.Join(slices.DeleteFunc(parts, isEmpty), " ") + ")"
	if d.ghost {
		return "(ghost " + s + ")"
	}
	return s
}

// by is a declaration refined by another one, as the chapter says.
func (d decl) by(other decl) (decl, bool) {
	switch {
	case d.ghost != other.ghost || d.head != other.head || d.name != other.name || d.sig != other.sig:
		return d, false
	case d.isWhole():
		return d, d.text("!") == other.text("!")
	case len(other.clauses) > 0 || d.body != "" && other.body != "":
		return d, false
	}
	d.ensures = slices.Concat(d.ensures, other.ensures)
	d.body += other.body
	ok := true
	d.members, ok = refineAll(d.members, other.members)
	return d, ok
}

// refineAll are declarations refined by others.
func refineAll(l, others []decl) ([]decl, bool) {
	l, all := slices.Clone(l), true
	for _, other := range others {
		at := slices.IndexFunc(l, func(d decl) bool { return d.name == other.name })
		if at < 0 {
			l = append(l, other)
			continue
		}
		var ok bool
		l[at], ok = l[at].by(other)
		all = all && ok
	}
	return l, all
}

// A made module.
type mod struct {
	name, refines string
	opens         []string
	abstract      bool
	decls         []decl
}

func (m mod) text() string {
	s := "(module " + m.name
	for _, name := range m.opens {
		s += " (open " + name + ")"
	}
	if m.refines != "" {
		s += " (refines " + m.refines + ")"
	}
	if m.abstract {
		s += " (abstract)"
	}
	for _, d := range m.decls {
		s += " " + d.text("!")
	}
	return s + ")"
}

// marks finds the names with marks in a text.
func marks() *regexp.Regexp {
	return regexp.MustCompile("[@!][a-zA-Z0-9]+")
}

// unmarked is a text without its marks.
func unmarked(s string) string {
	return strings.NewReplacer("@", "", "!", "").Replace(s)
}

// A world is modules in their order in a list.
type world []mod

func (w world) text() string {
	s := ""
	for _, m := range w {
		s += m.text() + " "
	}
	return s
}

func (w world) at(name string) mod {
	at := slices.IndexFunc(w, func(m mod) bool { return m.name == name })
	if at < 0 {
		return mod{}
	}
	return w[at]
}

// full is what a module has, by the chapter.
func (w world) full(m mod) (opens []string, l []decl, ok bool) {
	if m.refines == "" {
		return m.opens, m.decls, true
	}
	opens, l, _ = w.full(w.at(m.refines))
	l, ok = refineAll(l, m.decls)
	return slices.Concat(opens, m.opens), l, ok
}

// declared are the names that declarations declare, ascending, and as often as
// they do.
func declared(l []decl) []string {
	var names []string
	for _, d := range l {
		names = append(append(names, d.name), d.ctors...)
	}
	slices.Sort(names)
	return names
}

func areTwice(names []string) bool {
	return len(slices.Compact(slices.Clone(names))) < len(names)
}

// means is what a name means in a module.
func (w world) means(m mod, name string) (string, api.Errno) {
	opens, l, _ := w.full(m)
	if slices.Contains(declared(l), name) {
		return m.name, api.OK
	}
	var found []string
	for _, other := range opens {
		_, l, _ := w.full(w.at(other))
		if slices.Contains(declared(l), name) && !slices.Contains(found, other) {
			found = append(found, other)
		}
	}
	switch len(found) {
	case 0:
		return "", api.ErrName
	case 1:
		return found[0], api.OK
	}
	return "", api.ErrDup
}

// flat is a declaration of a module with new names.
func (w world) flat(m mod, d decl) string {
	return marks().ReplaceAllStringFunc(d.text("!"), func(s string) string {
		by := m.name
		if s[0] == '@' && slices.Contains(d.vars, s[1:]) {
			return s[1:]
		}
		if s[0] == '@' {
			by, _ = w.means(m, s[1:])
		}
		return by + "_" + s[1:]
	})
}

// needs are the parts of a module that name others.
func (m mod) needs() []string {
	if m.refines == "" {
		return m.opens
	}
	return append([]string{m.refines}, m.opens...)
}

// ordered are the modules by Order: fewer, if parts lead back.
func (w world) ordered() world {
	var l world
	for range w {
		for _, m := range w {
			stands := func(name string) bool { return l.at(name).name != "" }
			if !stands(m.name) && !slices.ContainsFunc(m.needs(), func(name string) bool { return !stands(name) }) {
				l = append(l, m)
				break
			}
		}
	}
	return l
}

// check is what Check tells of modules whose shape is right.
func (w world) check() api.Errno {
	var names []string
	for _, m := range w {
		names = append(names, m.name)
	}
	slices.Sort(names)
	if areTwice(names) {
		return api.ErrDup
	}
	opensAbstract := false
	for _, m := range w {
		for _, name := range m.needs() {
			if w.at(name).name == "" {
				return api.ErrName
			}
		}
		opensAbstract = opensAbstract || slices.ContainsFunc(m.opens, func(name string) bool { return w.at(name).abstract })
	}
	ordered := w.ordered()
	switch {
	case len(ordered) < len(w):
		return api.ErrLoop
	case opensAbstract:
		return api.ErrName
	}
	for _, m := range ordered {
		_, l, ok := w.full(m)
		switch {
		case areTwice(declared(m.decls)):
			return api.ErrDup
		case !ok:
			return api.ErrType
		case areTwice(declared(l)):
			return api.ErrDup
		}
	}
	for _, m := range ordered {
		_, l, _ := w.full(m)
		for _, d := range l {
			for _, name := range d.uses() {
				if _, err := w.means(m, name); err != api.OK {
					return err
				}
			}
		}
	}
	return api.OK
}

// A maker makes modules.
type maker struct {
	dice
	uses []string // names that may be used
	n    int
}

func (m *maker) one(of ...string) string {
	return of[m.below(len(of))]
}

// name is a name, mostly a new one.
func (m *maker) name() string {
	if m.below(12) == 0 {
		return m.one("n0", "n1", "n2", "n3")
	}
	m.n++
	return "n" + strconv.Itoa(m.n)
}

func (m *maker) use() string {
	if m.below(300) == 0 {
		return "@" + m.one("n0", "n1", "none")
	}
	return "@" + m.one(m.uses...)
}

// vars is no type variable, or one, which may be spelled like what is used.
func (m *maker) vars() []string {
	if m.below(3) > 0 {
		return nil
	}
	return []string{m.one("n1", m.one(m.uses...), m.one(m.uses...))}
}

func (m *maker) typ() string {
	switch m.below(6) {
	case 0:
		return m.use()
	case 1:
		return "(seq " + m.typ() + ")"
	case 2:
		return "(" + m.use() + " " + m.typ() + ")"
	}
	return m.one("int", "bool")
}

func (m *maker) expr() string {
	switch m.below(8) {
	case 0:
		return "(call " + m.use() + " " + m.expr() + ")"
	case 1:
		return "(match " + m.expr() + " (" + m.use() + " (x) " + m.expr() + "))"
	case 2:
		return "(let (n1 " + m.expr() + ") (fn ((n2 " + m.typ() + ")) n2))"
	case 3:
		return "(fuel 2 " + m.use() + " (get n1 (prefix " + m.use() + " 3)))"
	}
	return m.one("1", "n1", "x", "this")
}

func (m *maker) stmt() string {
	switch m.below(6) {
	case 0:
		return "(call (n1) " + m.use() + " " + m.expr() + ")"
	case 1:
		return "(new n2 " + m.use() + " (n1 " + m.expr() + "))"
	case 2:
		return "(if " + m.expr() + " (" + m.stmt() + ") (" + m.stmt() + "))"
	case 3:
		return "(lemma (n1 1 2) (requires " + m.expr() + ") " + m.use() + ")"
	case 4:
		return "(case n1 (" + m.use() + " (n2) " + m.stmt() + "))"
	}
	return "(reveal " + m.use() + ")"
}

// decl is a declaration, or what may stand in a class, too.
func (m *maker) decl(inClass bool) decl {
	d := decl{name: m.name(), head: m.one("function", "predicate", "twostate", "method", "lemma", "data", "codata", "sub", "trait", "class", "least", "extern", "function")}
	if inClass {
		d.head = m.one("function", "predicate", "twostate", "method", "lemma", "field")
	}
	param := "((" + m.one("x", "n1") + " " + m.typ() + "))"
	if m.below(3) == 0 {
		param = "()"
	}
	body := ""
	switch d.head {
	case "data", "codata":
		d.ctors = []string{m.name()}
		d.vars = m.vars()
		d.sig, d.body = "("+strings.Join(d.vars, "")+")", "(!"+d.ctors[0]+" (x "+m.typ()+"))"
	case "sub":
		d.sig, d.body = "(x "+m.typ()+")", m.expr()+" "+m.expr()
	case "field":
		d.sig = m.typ()
	case "trait", "class":
		d.sig = m.one("()", "("+m.use()+")")
		for range m.below(4) {
			d.members = append(d.members, m.decl(true))
		}
		slices.SortFunc(d.members, func(a, b decl) int { return strings.Compare(a.name, b.name) })
		d.members = slices.CompactFunc(d.members, func(a, b decl) bool { return a.name == b.name })
	case "method", "lemma", "extern":
		d.sig, body = param+" "+m.one("()", "((y int))"), "(body "+m.stmt()+")"
	default:
		d.sig, body = param, m.one("", "(by "+m.stmt()+") ")+m.expr()
		if d.head == "function" {
			d.sig += " " + m.typ()
		}
		if d.vars = m.vars(); len(d.vars) > 0 && !inClass && (d.head == "function" || d.head == "predicate") {
			d.sig = "(tp " + d.vars[0] + ") " + d.sig
		} else {
			d.vars = nil
		}
	}
	return m.finish(d, body)
}

// finish gives what is called its clauses, and may give it a body.
func (m *maker) finish(d decl, body string) decl {
	isCalled := body != ""
	if d.head == "least" {
		d.body, isCalled = m.expr(), false
	}
	if isCalled {
		for range m.below(3) {
			d.clauses = append(d.clauses, "(requires "+m.expr()+")")
		}
		d.ensures = m.ensures()
		if m.below(2) == 0 {
			d.body = body
		}
	}
	if slices.Contains([]string{"function", "predicate", "method", "field"}, d.head) {
		d.ghost = m.below(4) == 0 && (!isCalled || !strings.HasPrefix(d.sig, "(tp"))
	}
	return d
}

func (m *maker) ensures() []string {
	var l []string
	for range m.below(3) {
		l = append(l, "(ensures "+m.expr()+")")
	}
	return l
}

// refining is a declaration that refines another one, or nearly does.
func (m *maker) refining(d decl, inClass bool) decl {
	if d.isWhole() || d.head == "least" {
		return d
	}
	other := m.decl(inClass)
	wrong := m.below(40)
	if wrong == 0 {
		other.name, other.clauses, other.ensures = d.name, nil, nil
		return other
	}
	if d.head == "class" {
		own := []decl{}
		for _, one := range d.members {
			if m.below(2) == 0 {
				own = append(own, m.refining(one, true))
			}
		}
		d.members = append(own, decl{head: "field", name: "m" + m.name(), sig: m.typ()})
		return d
	}
	if wrong > 1 {
		d.clauses = nil
	}
	body := d.body
	d.ensures, d.body = m.ensures(), ""
	if body == "" && m.below(2) == 0 {
		if d.body = m.expr(); slices.Contains([]string{"method", "lemma", "extern"}, d.head) {
			d.body = "(body " + m.stmt() + ")"
		}
	} else if wrong == 2 {
		d.body = body
	}
	return d
}

// world is a few modules, most of them right.
func (m *maker) world() world {
	var w world
	for i := range 1 + m.below(6) {
		one := mod{name: "M" + strconv.Itoa(i), abstract: m.below(4) == 0}
		m.uses = nil
		for _, other := range w {
			if m.below(3) == 0 && (!other.abstract || m.below(20) == 0) {
				one.opens = append(one.opens, other.name)
			}
		}
		if len(w) > 0 && m.below(2) == 0 {
			one.refines = w[m.below(len(w))].name
		}
		w = m.fill(w, one)
	}
	if m.below(8) == 0 {
		at := m.below(len(w))
		w[at].opens = append(w[at].opens, m.one("M0", "M1", "M2", "none"))
	}
	if m.below(30) == 0 {
		w[m.below(len(w))].name = m.one("M0", "M1", "M9")
	}
	for i := range w { // in any order
		j := m.below(i + 1)
		w[i], w[j] = w[j], w[i]
	}
	return w
}

// fill adds a module with declarations.
func (m *maker) fill(w world, one mod) world {
	opens, had, _ := w.full(one)
	m.uses = declared(had)
	for _, name := range opens {
		_, l, _ := w.full(w.at(name))
		m.uses = append(m.uses, declared(l)...)
	}
	if len(m.uses) == 0 {
		one.decls = []decl{{head: "least", name: m.name(), sig: "()", body: "true"}}
		m.uses = declared(one.decls)
	}
	for range m.below(4) {
		one.decls = append(one.decls, m.decl(false))
		m.uses = append(m.uses, declared(one.decls)...)
	}
	for _, d := range had {
		if m.below(3) == 0 && d.head != "least" || m.below(200) == 0 {
			one.decls = append(one.decls, m.refining(d, false))
		}
	}
	return append(w, one)
}
