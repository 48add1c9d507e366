package module

import (
	"slices"

	"plinth/api"
	"plinth/reader"
)

// merged are declarations, or members of a class, refined by others: those of a
// in their order, and behind them those of b that refine none. It tells whether
// all that have the name of one of a refine it.
func merged(a, b []api.Form) ([]api.Form, bool) {
	refines := map[string]api.Form{}
	for _, decl := range b {
		refines[nameOf(decl)] = decl
	}
	var l []api.Form
	known := map[string]bool{}
	for _, decl := range a {
		name := nameOf(decl)
		known[name] = true
		if by, ok := refines[name]; ok {
			if decl, ok = refined(decl, by); !ok {
				return nil, false
			}
		}
		l = append(l, decl)
	}
	for _, decl := range b {
		if !known[nameOf(decl)] {
			l = append(l, decl)
		}
	}
	return l, true
}

// nameOf is the name of a declaration or member. Layer 4 tells none of a field,
// and none of a form that has too many parts, as one may that is refined.
func nameOf(decl api.Form) string {
	if reader.Head(decl) == "ghost" {
		decl = decl.Kids[1]
	}
	return decl.Kids[1].Text
}

// refined is a declaration or member refined by another one, and whether that
// one refines it.
func refined(a, b api.Form) (api.Form, bool) {
	head := reader.Head(a)
	if head != reader.Head(b) {
		return api.Form{}, false
	}
	switch head {
	case "ghost":
		inner, ok := refined(a.Kids[1], b.Kids[1])
		return listOf(a.Kids[:1], []api.Form{inner}), ok
	case "class":
		members, ok := merged(a.Kids[3:], b.Kids[3:])
		return listOf(a.Kids[:3], members), ok && areEqual(a.Kids[:3], b.Kids[:3])
	case "function", "predicate", "twostate", "least", "greatest", "method", "lemma", "extern":
		if !hasTypeVars(a) {
			return refinedCallable(a, b)
		}
	}
	return a, reader.Equal(a, b)
}

// hasTypeVars tells whether a callable declaration has a tp. One that has none
// differs from it in what stands there.
func hasTypeVars(decl api.Form) bool {
	return reader.Head(decl.Kids[2]) == "tp"
}

// refinedCallable goes on with callable declarations of one head.
func refinedCallable(a, b api.Form) (api.Form, bool) {
	first, own := piecesOf(a), piecesOf(b)
	isOther := func(clause api.Form) bool { return reader.Head(clause) != "ensures" }
	bodyTwice := len(first.body) > 0 && len(own.body) > 0
	if !areEqual(first.signature, own.signature) || slices.ContainsFunc(own.clauses, isOther) || bodyTwice {
		return api.Form{}, false
	}
	return listOf(first.signature, first.clauses, own.clauses, first.body, own.body), true
}

// pieces are what a callable declaration without a tp consists of.
type pieces struct {
	signature []api.Form // its head, its name, params, and results or a type
	clauses   []api.Form
	body      []api.Form // with the by ahead of it, or nothing
}

func piecesOf(decl api.Form) pieces {
	at := 4
	switch reader.Head(decl) {
	case "predicate", "twostate", "least", "greatest":
		at = 3
	}
	p := pieces{signature: decl.Kids[:at], clauses: decl.Kids[at:]}
	isBody := func(f api.Form) bool { return !isClause(f) }
	if end := slices.IndexFunc(p.clauses, isBody); end >= 0 {
		p.clauses, p.body = p.clauses[:end], p.clauses[end:]
	}
	return p
}

// isClause tells whether a part of a callable declaration is a clause ahead of
// its body. (fuel N f E) is an expression.
func isClause(f api.Form) bool {
	switch reader.Head(f) {
	case "requires", "ensures", "reads", "modifies", "decreases", "opaque":
		return true
	case "fuel":
		return len(f.Kids) == 2
	}
	return false
}

func areEqual(a, b []api.Form) bool {
	return slices.EqualFunc(a, b, reader.Equal)
}

// listOf is a list of rows of Kids.
func listOf(rows ...[]api.Form) api.Form {
	return api.Form{Kind: api.List, Kids: slices.Concat(rows...)}
}
