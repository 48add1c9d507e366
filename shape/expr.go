package shape

import (
	"plinth/api"
	"plinth/reader"
)

// The bounds of the numbers in expressions.
const (
	maxBits = 16 // of (bits N V)
	maxFuel = 9  // of (fuel N f E)
)

// anExpr is an expression.
func anExpr() part {
	return part{fits: anything, inside: askExpr, isExpr: true}
}

// binding is a name, and expressions that say what it may be: (x E ..).
func binding(exprs ...part) part {
	return aList(just(aName()).end(exprs...))
}

// names are names that differ: (x ..).
func names() part {
	return aList(just().any(aName()), differ)
}

// askExpr stops with the first error of a form that ought to be an expression.
func askExpr(f api.Form) {
	switch f.Kind {
	case api.Num:
	case api.Word:
		must(isExprWord(f.Text), api.ErrForm)
	case api.List:
		r := exprRow(f)
		r.ask(f.Kids[1:])
	default:
		panic(api.ErrForm)
	}
}

// exprRow is what must stand behind the head of an expression.
func exprRow(f api.Form) row {
	e := anExpr()
	switch reader.Head(f) {
	case "neg", "not", "bnum", "len", "card", "keys", "fresh":
		return just(e)
	case "+", "-", "*", "div", "mod", "<", "<=", "=", "=>", "iff", "band", "bor", "bxor", "badd",
		"at", "cat", "in", "join", "meet", "less", "count", "look":
		return just(e, e)
	case "if", "cut", "put":
		return just(e, e, e)
	case "and", "or", "seq", "set", "bag":
		return just().any(e)
	case "map":
		return just().any(aList(just(e, e)))
	case "bits":
		return just(aNumber(1, maxBits), aNumber(0, api.MaxInt))
	case "empty":
		return just(aType())
	case "imap":
		return just(e, aType())
	case "app":
		return some(e)
	case "is", "get":
		return just(aName(), e)
	case "call", "make":
		return callRow(f)
	case "prefix":
		return just(aName(), e).any(e)
	case "fuel":
		return just(aNumber(0, maxFuel), aName(), e)
	case "old":
		if len(f.Kids) > 2 { // at a label
			return just(aName(), e)
		}
		return just(e)
	}
	return binderRow(f)
}

// callRow is that of a call or make: types may stand ahead of the arguments.
func callRow(f api.Form) row {
	if len(f.Kids) > 2 && hasHead(f.Kids[2], "of") {
		return just(aName(), behind("of", some(aType()))).any(anExpr())
	}
	return just(aName()).any(anExpr())
}

// binderRow is that of an expression that binds names.
func binderRow(f api.Form) row {
	e := anExpr()
	switch reader.Head(f) {
	case "let", "every", "any":
		return just(binding(e), e)
	case "all", "some":
		return just(binding(e, e), e)
	case "pick":
		return just(binding(e, e), e, e)
	case "match":
		arm := aList(just(aName(), names(), e))
		return just(e, arm).any(arm)
	case "fn":
		return just(params(), e)
	case "forall", "exists":
		return just(aList(some(aTyped()), differ)).any(behind("trigger", some(e))).end(e)
	}
	panic(api.ErrForm)
}

// exprKids does what Kids does, of an expression.
func exprKids(f api.Form) []int {
	if f.Kind != api.List {
		return nil
	}
	var kids []int
	r := exprRow(f)
	for i := 1; i < len(f.Kids); i++ {
		if r.at(i-1, len(f.Kids)-1).isExpr {
			kids = append(kids, i)
		}
	}
	return kids
}
