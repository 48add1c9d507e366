package shape

import (
	"plinth/api"
	"plinth/reader"
)

// A checker asks statements, and what has statements in it, for their shapes.
type checker struct {
	// result says that the word result may be assigned.
	result bool
}

// stmt is a statement.
func (c checker) stmt() part {
	return part{fits: anything, inside: c.askStmt}
}

// stmts is a row of statements.
func (c checker) stmts() row {
	return just().any(c.stmt())
}

// assigned is a name that is assigned.
func (c checker) assigned() part {
	return part{fits: func(f api.Form) bool { return isNameForm(f) || c.result && isResult(f) }}
}

// allAssigned are names that differ and are assigned at once: (x ..).
func (c checker) allAssigned() part {
	return aList(just().any(c.assigned()), differ)
}

// clause is a list with one of some heads, which has what each such clause has.
func (c checker) clause(heads ...string) part {
	return part{fits: anything, inside: func(f api.Form) {
		must(hasHead(f, heads...), api.ErrForm)
		r := c.clauseRow(reader.Head(f))
		r.ask(f.Kids[1:])
	}}
}

// clauseRow is what must stand behind the head of a clause, of declarations and
// of while.
func (c checker) clauseRow(head string) row {
	switch head {
	case "requires", "ensures", "invariant":
		return just(anExpr())
	case "fuel":
		return just(aNumber(-api.MaxInt, api.MaxInt))
	case "opaque":
		return just()
	case "by":
		return checker{result: true}.stmts() // its statements do a function
	}
	return just().any(anExpr())
}

// askStmt stops with the first error of a form that ought to be a statement.
func (c checker) askStmt(f api.Form) {
	r := c.stmtRow(f)
	r.ask(f.Kids[1:])
}

// stmtRow is what must stand behind the head of a statement.
func (c checker) stmtRow(f api.Form) row {
	e := anExpr()
	switch reader.Head(f) {
	case "assume", "expect":
		return just(e)
	case "leave":
		return just()
	case "reveal":
		return just(aName())
	case "var":
		if len(f.Kids) > 3 {
			return just(aName(), aType(), e)
		}
		return just(aName(), aType())
	case "set":
		return just(c.assigned(), e)
	case "store":
		return just(e, aName(), e)
	case "new":
		return just(c.assigned(), aName()).any(aList(just(aName(), e)))
	case "call":
		return just(c.allAssigned(), aName()).any(e)
	case "send":
		return just(c.allAssigned(), e, aName()).any(e)
	case "choose":
		return just(c.assigned(), e, e, e)
	case "each":
		return just(binding(e, e), headed(c.askStmt, "store"))
	case "lemma":
		return just(binding(e, e), c.clause("requires"), aName()).any(e)
	}
	return c.nestedRow(f)
}

// nestedRow is that of a statement that has statements in it.
func (c checker) nestedRow(f api.Form) row {
	e, s := anExpr(), c.stmt()
	switch reader.Head(f) {
	case "ghost", "block":
		return c.stmts()
	case "label":
		return just(aName()).any(s)
	case "if":
		branch := aList(c.stmts())
		return just(e, branch, branch)
	case "while":
		clauses := just().any(c.clause("invariant", "decreases", "modifies"))
		return just(e, aList(clauses, once)).any(s)
	case "case":
		arm := aList(just(aName(), names()).any(s))
		return just(e, arm).any(arm)
	case "assert":
		return c.withBy(f)
	case "calc":
		line := headed(func(f api.Form) {
			r := c.withBy(f)
			r.ask(f.Kids[1:])
		}, "=", "<=", "<", "=>", "iff")
		return just(e).any(line)
	}
	panic(api.ErrForm)
}

// withBy is an expression, and statements that show it, if they are there.
func (c checker) withBy(f api.Form) row {
	if len(f.Kids) > 2 {
		return just(anExpr(), behind("by", c.stmts()))
	}
	return just(anExpr())
}
