package shape

import (
	"slices"

	"plinth/api"
	"plinth/reader"
)

// params are names that differ, with their types: ((x T) ..).
func params() part {
	return aList(just().any(aTyped()), differ)
}

// typeVars are the type variables of a function: (tp x ..).
func typeVars() part {
	vars := some(aName())
	return headed(func(f api.Form) {
		vars.ask(f.Kids[1:])
		differ(f.Kids[1:])
	}, "tp")
}

// askDecl stops with the first error of a form that ought to be a declaration.
func (c checker) askDecl(f api.Form) {
	switch reader.Head(f) {
	case "data", "codata":
		askData(f)
	case "sub":
		just(aName(), aTyped(), anExpr(), anExpr()).ask(f.Kids[1:])
	case "trait", "class":
		c.askClass(f)
	case "function", "predicate", "twostate":
		c.askFunction(f)
	case "least", "greatest":
		just(aName(), params(), anExpr()).ask(f.Kids[1:])
	case "method", "lemma", "extern":
		c.askMethod(f)
	case "ghost":
		just(headed(c.askDecl, "function", "predicate", "method")).ask(f.Kids[1:])
	default:
		panic(api.ErrForm)
	}
}

// askData goes on with data and codata.
func askData(f api.Form) {
	ctor := aList(just(aName()).any(aTyped()), func(kids []api.Form) { differ(kids[1:]) })
	first := []part{aName(), names()}
	if len(f.Kids) > 3 && hasHead(f.Kids[3], "eq") {
		first = append(first, headed(func(eq api.Form) { askEq(eq, f.Kids[2].Kids) }, "eq"))
	}
	just(append(first, ctor)...).any(ctor).ask(f.Kids[1:])
	differ(f.Kids[1+len(first):])
}

// askEq asks the names that an eq has of the type variables.
func askEq(eq api.Form, vars []api.Form) {
	known := map[string]bool{}
	for _, v := range vars {
		known[v.Text] = true
	}
	isVar := func(f api.Form) bool { return f.Kind == api.Word && known[f.Text] }
	some(part{fits: isVar}).ask(eq.Kids[1:])
	differ(eq.Kids[1:])
}

// askClass goes on with traits and classes.
func (c checker) askClass(f api.Form) {
	traits := aList(just().any(aName()))
	just(aName(), traits).any(part{fits: anything, inside: c.askMember}).ask(f.Kids[1:])
	seen := map[string]bool{}
	for _, member := range f.Kids[3:] {
		name := held(member).Kids[1].Text
		must(!seen[name], api.ErrDup)
		seen[name] = true
	}
}

// askMember stops with the first error of a form that ought to be a member.
func (c checker) askMember(f api.Form) {
	switch reader.Head(f) {
	case "field":
		just(aName(), aType()).ask(f.Kids[1:])
	case "ghost":
		just(headed(c.askMember, "field", "function", "predicate", "method")).ask(f.Kids[1:])
	case "function", "predicate", "twostate", "method", "lemma":
		// Members have no type variables: that they stand there comes ahead of
		// all that is wrong in them.
		must(!hasTypeVars(f), api.ErrForm)
		c.askDecl(f)
	default:
		panic(api.ErrForm)
	}
}

// askFunction goes on with functions, predicates and twostates.
func (c checker) askFunction(f api.Form) {
	first := []part{aName()}
	if hasTypeVars(f) {
		first = append(first, typeVars())
	}
	first = append(first, params())
	if hasHead(f, "function") {
		first = append(first, aType())
	}
	clause := c.clause("requires", "ensures", "reads", "decreases", "opaque", "fuel", "by")
	r := just(first...).any(clause)
	p := piecesOf(f)
	if len(p.body) > 0 {
		r = r.end(anExpr())
	}
	must(byStands(p), api.ErrForm)
	r.ask(f.Kids[1:])
	once(p.clauses)
}

// byStands tells whether nothing stands behind a by but the expression that the
// by does. That there is but one by is asked later.
func byStands(p pieces) bool {
	at := slices.IndexFunc(p.clauses, isBy)
	if at < 0 {
		return true
	}
	isOther := func(clause api.Form) bool { return !isBy(clause) }
	return len(p.body) > 0 && !slices.ContainsFunc(p.clauses[at:], isOther)
}

// askMethod goes on with methods, lemmas and externs.
func (c checker) askMethod(f api.Form) {
	clause := c.clause("requires", "ensures", "modifies", "decreases")
	r := just(aName(), params(), params()).any(clause)
	p := piecesOf(f)
	if len(p.body) > 0 {
		r = r.end(behind("body", c.stmts()))
	}
	r.ask(f.Kids[1:])
	once(p.clauses)
	differ(slices.Concat(p.params.Kids, p.results.Kids))
}
