package shape

import (
	"slices"

	"plinth/api"
	"plinth/reader"
)

// pieces are what stands behind the name of a callable declaration. What is
// missing is a form without Kids, or no form.
type pieces struct {
	params, results api.Form
	clauses         []api.Form
	body            []api.Form // just one, or none
}

// hasHead tells whether a form is a list with one of some heads.
func hasHead(f api.Form, heads ...string) bool {
	return slices.Contains(heads, reader.Head(f))
}

// held is what a ghost declaration or member holds, and any other one itself.
func held(f api.Form) api.Form {
	if hasHead(f, "ghost") {
		return f.Kids[1]
	}
	return f
}

// hasTypeVars tells whether (tp ..) stands where a function or predicate may
// have it.
func hasTypeVars(f api.Form) bool {
	return hasHead(f, "function", "predicate") && len(f.Kids) > 2 && hasHead(f.Kids[2], "tp")
}

func isBy(f api.Form) bool {
	return hasHead(f, "by")
}

// isClause tells whether a form is a clause of a function. (fuel N f E) is none.
func isClause(f api.Form) bool {
	return hasHead(f, "requires", "ensures", "reads", "decreases", "opaque", "by") || hasHead(f, "fuel") && len(f.Kids) == 2
}

// piecesOf takes a list apart that ought to be a callable declaration, and may
// still lack any of its pieces.
func piecesOf(f api.Form) (p pieces) {
	head := reader.Head(f)
	rest := f.Kids[min(2, len(f.Kids)):]
	next := func() (piece api.Form) {
		if len(rest) > 0 {
			piece, rest = rest[0], rest[1:]
		}
		return piece
	}
	if hasTypeVars(f) {
		next()
	}
	p.params = next()
	switch head {
	case "function":
		next() // the type of its result
	case "method", "lemma", "extern":
		p.results = next()
	}
	last := len(rest) - 1
	if last >= 0 && isBody(head, rest[last]) {
		p.body = rest[last:]
		rest = rest[:last]
	}
	p.clauses = rest
	return p
}

// isBody tells whether the last form behind params and results, of a declaration
// with a head, is what it does or says.
func isBody(head string, last api.Form) bool {
	switch head {
	case "method", "lemma", "extern":
		return hasHead(last, "body")
	}
	return !isClause(last)
}

// declared is a declaration that Decl lets, without ghost around it, and whether
// it is one.
func declared(decl api.Form) (api.Form, bool) {
	if Decl(decl) != api.OK {
		return api.Form{}, false
	}
	return held(decl), true
}

// callable are the pieces of a declaration that Decl lets: none, if it is not a
// callable one.
func callable(decl api.Form) pieces {
	d, ok := declared(decl)
	if !ok || hasHead(d, "data", "codata", "sub", "trait", "class") {
		return pieces{}
	}
	return piecesOf(d)
}
