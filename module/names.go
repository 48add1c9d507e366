package module

import (
	"plinth/api"
	"plinth/kind"
	"plinth/reader"
)

// A pattern has a letter for each part of a list. Its last letter stands for all
// parts behind it, too. The letters:
//
//	D  a declaration
//	M  a member of a class or trait, whose name is not one of the module
//	S  a statement
//	E  an expression, or a list of such behind a head: a clause, (by S ..), ..
//	T  a type
//	d  a name that is declared
//	u  a name that is used
//	.  what speaks of no declaration: a number, a field, a label, ..
//
// and lists without a head, whose pattern inner has.

// inner is the pattern of what a letter stands for.
func inner(letter byte) string {
	switch letter {
	case 'n': // (NAME ..)
		return "u"
	case 'p': // ((x T) ..)
		return "t"
	case 't': // (x T)
		return ".T"
	case 'c': // (CTOR (x T) ..)
		return "dt"
	case 'l': // (x E ..), (E E), (HEAD E ..)
		return "E"
	case 's': // (S ..)
		return "S"
	case 'a': // (CTOR (x ..) E)
		return "u.E"
	case 'b': // (CTOR (x ..) S ..)
		return "u.S"
	}
	return ""
}

// declPattern is the pattern of what stands behind the head of a declaration or
// member.
func declPattern(f api.Form) string {
	switch reader.Head(f) {
	case "data", "codata":
		if reader.Head(f.Kids[3]) == "eq" {
			return "d..c"
		}
		return "d.c"
	case "sub":
		return "dtE"
	case "trait", "class":
		return "dnM"
	case "field":
		return "dT"
	case "function":
		if hasTypeVars(f) {
			return "d.pTE"
		}
		return "dpTE"
	case "predicate":
		if hasTypeVars(f) {
			return "d.pE"
		}
	case "method", "lemma", "extern":
		return "dppE"
	}
	return "dpE" // twostate, least, greatest, too
}

// stmtPattern is the pattern of what stands behind the head of a statement.
func stmtPattern(head string) string {
	switch head {
	case "var":
		return ".TE"
	case "store":
		return "E.E"
	case "new":
		return ".ul"
	case "call":
		return ".uE"
	case "send":
		return ".E.E"
	case "if":
		return "Es"
	case "while":
		return "ElS"
	case "case":
		return "Eb"
	case "label":
		return ".S"
	case "each":
		return "lS"
	case "lemma":
		return "lEuE"
	case "calc":
		return "El"
	case "reveal":
		return "u"
	case "ghost", "block":
		return "S"
	}
	return "E" // what is assigned is no declaration
}

// exprPattern is the pattern of what stands behind the head of an expression, or
// of what a pattern takes for one.
func exprPattern(head string) string {
	switch head {
	case "let", "pick", "all", "some", "every", "any":
		return "lE"
	case "fn", "forall", "exists":
		return "pE"
	case "match":
		return "Ea"
	case "call", "make", "is", "prefix":
		return "uE"
	case "get":
		return ".E"
	case "fuel":
		return ".uE"
	case "map":
		return "l"
	case "empty", "of":
		return "T"
	case "imap":
		return "ET"
	case "by", "body":
		return "S"
	}
	return "E"
}

// A walk goes through a declaration from the front.
type walk struct {
	// show gets the words that name what modules declare.
	show func(at *api.Form, isDeclared bool)
	// vars are the type variables, whose names mean nothing else where a name is
	// used. What is declared may be spelled like one.
	vars map[string]bool
}

// eachName shows the words in a declaration that declare a name, or use one.
func eachName(decl *api.Form, show func(at *api.Form, isDeclared bool)) {
	w := walk{show: show, vars: map[string]bool{}}
	w.part('D', decl)
}

// parts goes through Kids by a pattern.
func (w walk) parts(pattern string, kids []api.Form) {
	for i := range kids {
		if pattern != "" {
			w.part(pattern[min(i, len(pattern)-1)], &kids[i])
		}
	}
}

// part goes through what a letter stands for.
func (w walk) part(letter byte, f *api.Form) {
	switch letter {
	case 'd':
		w.show(f, true)
	case 'u':
		w.used(f)
	case 'T':
		w.words(f)
	case 'D':
		w.decl(f)
	case 'M':
		w.member(f)
	case 'S':
		w.parts(stmtPattern(reader.Head(*f)), f.Kids[1:])
	case 'E':
		if f.Kind == api.List {
			w.parts(exprPattern(reader.Head(*f)), f.Kids[1:])
		}
	default:
		w.parts(inner(letter), f.Kids)
	}
}

// decl goes through a declaration.
func (w walk) decl(f *api.Form) {
	if reader.Head(*f) == "ghost" {
		f = &f.Kids[1]
	}
	for _, v := range typeVars(*f) {
		w.vars[v.Text] = true
	}
	w.parts(declPattern(*f), f.Kids[1:])
}

// member goes through a member, which has no type variables.
func (w walk) member(f *api.Form) {
	if reader.Head(*f) == "ghost" {
		f = &f.Kids[1]
	}
	w.parts(declPattern(*f)[1:], f.Kids[2:])
}

// typeVars are the type variables of a declaration.
func typeVars(decl api.Form) []api.Form {
	switch reader.Head(decl) {
	case "data", "codata":
		return decl.Kids[2].Kids
	case "function", "predicate":
		if hasTypeVars(decl) {
			return decl.Kids[2].Kids[1:]
		}
	}
	return nil
}

// used shows a word that uses a name, unless a type variable hides it.
func (w walk) used(f *api.Form) {
	if !w.vars[f.Text] {
		w.show(f, false)
	}
}

// words goes through a type.
func (w walk) words(f *api.Form) {
	if f.Kind == api.Word && len(kind.Names(*f)) > 0 {
		w.used(f)
	}
	for i := range f.Kids {
		w.words(&f.Kids[i])
	}
}
