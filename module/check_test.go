package module_test

import (
	"strconv"
	"strings"
	"testing"

	"plinth/api"
	"plinth/module"
)

// let asks Check about modules that it must let.
func let(t *testing.T, texts ...string) {
	t.Helper()
	for _, s := range texts {
		refusals(t, s, forms(s), api.OK)
	}
}

// stopped asks all functions about modules that are not let.
func stopped(t *testing.T, want api.Errno, texts ...string) {
	t.Helper()
	for _, s := range texts {
		refusals(t, s, forms(s), want)
	}
}

// P6.1: what Check lets.
func TestLet(t *testing.T) {
	let(t, "", "(module A)", "(module A (abstract))", "(module Abcde6)", "(module A) (module B)",
		"(module A) (module B (open A))", "(module B (refines A)) (module A)", "(module A (abstract)) (module B (refines A))",
		"(module A) (module B) (module C (open A) (refines B) (open B) (abstract) (open A) (open A))",
		"(module C (abstract) (open A) (refines B)) (module A) (module B)",
		"(module A (data D (a) (C (x a)) (E))) (module B (open A) (function D () int) (method C () ()))",
		"(module f (function f () int)) (module A (open f) (function A () int (call f)))")
	let(t, strings.Join(many(20), " "))
}

// many are so many modules.
func many(n int) []string {
	var l []string
	for i := range n {
		l = append(l, "(module M"+strconv.Itoa(i)+")")
	}
	return l
}

// P6.1: ErrArg: too many modules, and forms that are not valid, ahead of all
// else.
func TestArg(t *testing.T) {
	refusals(t, "21 modules", forms(strings.Join(many(21), " ")), api.ErrArg)
	refusals(t, "21 forms", forms(strings.Repeat("7 ", 21)), api.ErrArg)
	refusals(t, "20 forms", forms(strings.Repeat("7 ", 20)), api.ErrForm)
	for what, f := range noForms() {
		refusals(t, what, []api.Form{f}, api.ErrArg)
		refusals(t, what+" behind a bad module", []api.Form{form("(module)"), f}, api.ErrArg)
		refusals(t, what+" behind modules of one name", []api.Form{form("(module A)"), form("(module A)"), f}, api.ErrArg)
	}
}

// P6.1: ErrForm: a shape that is none.
func TestForm(t *testing.T) {
	stopped(t, api.ErrForm, "1", "module", `"module"`, "()", "(module)", "(modul A)", "((module A))", "(refines A)", "(method m () ())",
		"(module 1)", "(module (A))", `(module "A")`, "(module if)", "(module module)", "(module this)", "(module _A)", "(module 1A)", "(module A-)", "(module Abcdef7)", "(module)",
		"(module A B)", "(module A 1)", "(module A ())", "(module A (foo))", "(module A (field x int))", "(module A (leave))", "(module A (module B))", "(module A (open))", "(module A (open A B))", "(module A (open 1))", "(module A (open (A)))", "(module A (open if))", "(module A (open Abcdef7))",
		"(module A (refines))", "(module A (refines A A))", "(module A (refines 1))", "(module A (refines open))", "(module A (refines Abcdef7))", "(module A (refines B) (refines B))", "(module A (refines B) (open C) (refines D))",
		"(module A (abstract A))", "(module A (abstract abstract))", "(module A (abstract ()))", "(module A (abstract) (abstract))", "(module A (abstract) (open B) (abstract))", "(module A open)", "(module A abstract)", "(module A (1 B))",
		"(module A) (module B (foo))", "(module A (method f () ()) (open A))", "(module A (method f () ()) (refines B))", "(module A (method f () ()) (abstract))",
		// Layer 4's errors of declarations.
		"(module A (method f ()))", "(module A (data D ()))", "(module A (function int () int))", "(module A (method f () () (body (foo))))", "(module A (ghost (data D () (C))))", "(module A) (module B (open A) (data))", "(module A (class C () (method m () () (body 1))))")
	stopped(t, api.ErrDup, "(module A (method f ((x int) (x int)) ()))", "(module A (data D () (C) (C)))", "(module A) (module B (class C () (field x int) (field x int)))", "(module A (method f () () (body (call (x x) f))))")
	// In turn, from the front.
	stopped(t, api.ErrDup, "(module A (method f ((x int) (x int)) ())) (module B (foo))", "(module A (method f ((x int) (x int)) ()) (foo))", "(module A (method f ((x int) (x int)) ()) (open B))")
	stopped(t, api.ErrForm, "(module B (foo)) (module A (method f ((x int) (x int)) ()))", "(module A (foo) (method f ((x int) (x int)) ()))", "(module A (open) (method f ((x int) (x int)) ()))", "(module Abcdef7 (method f ((x int) (x int)) ()))")
}

// P6.1: ErrDup of module names, ErrName of parts, ErrLoop, and ErrName of what is
// abstract.
func TestParts(t *testing.T) {
	stopped(t, api.ErrDup, "(module A) (module A)", "(module A) (module B) (module A (abstract))")
	stopped(t, api.ErrName, "(module A (open B))", "(module A (refines B))", "(module A (open B) (refines C)) (module B)", "(module A) (module B (open A)) (module C (open A) (open D))", "(module A (function f () int)) (module B (open f))")
	stopped(t, api.ErrLoop, "(module A (open A))", "(module A (refines A))", "(module A (abstract) (open A))", "(module A (open B)) (module B (open A))", "(module A (open B)) (module B (refines A))", "(module A (refines B)) (module B (refines C)) (module C (refines A))",
		"(module A) (module B (open A) (open C)) (module C (open D)) (module D (open A) (open B))", "(module A (open B)) (module B (open B))")
	stopped(t, api.ErrName, "(module A (abstract)) (module B (open A))", "(module B (open A) (refines A)) (module A (abstract))", "(module A (abstract)) (module B (refines A) (abstract)) (module C (refines A) (open B))")
	let(t, "(module A (abstract)) (module B (refines A)) (module C (open B))")
}

// P6.1: by Order: what is declared twice, and what refines none.
func TestDeclaredTwice(t *testing.T) {
	stopped(t, api.ErrDup, "(module A (function f () int) (function f () int))", "(module A (function f () int) (method f () ()))", "(module A (ghost (function f () int)) (class f ()))", "(module A (data D () (D)))", "(module A (codata D () (C)) (data E () (F) (C)))", "(module A (data D () (C)) (method C () ()))", "(module A (method C () ()) (codata D () (B) (C)))",
		// With what comes by refining.
		"(module A (method C () ())) (module B (refines A) (data D () (C)))", "(module A (data D () (C))) (module B (refines A) (method C () ()))", "(module A (data D () (C))) (module B (refines A) (data E () (C)))", "(module A (data D () (C))) (module B (refines A)) (module E (refines B) (codata F () (C)))")
	let(t, "(module A (class C () (field C int)) (data D (C) (E (C C))) (method f ((f int)) ((C int))))", "(module A (class C () (field f int)) (class D () (field f int)) (method f () ()))", "(module A (data D () (C (x int)) (E (x int))))",
		"(module A (data D () (C))) (module B (open A) (data D () (C)))", "(module A (data D () (C))) (module B (refines A) (data D () (C)))")
	stopped(t, api.ErrType, "(module A (method f () ())) (module B (refines A) (function f () int))", "(module A (method f () ())) (module B (refines A) (method f ((x int)) ()))", "(module A (method f () () (body))) (module B (refines A) (method f () () (body)))", "(module A (data D () (C))) (module B (refines A) (data D () (C) (E)))",
		"(module A (method f () ())) (module B (refines A) (method f () () (body))) (module C (refines B) (method f () () (body)))", "(module A (abstract) (least l () true)) (module B (abstract) (refines A) (least l () true))")
}

// P6.1: names that are used.
func TestUsedNames(t *testing.T) {
	stopped(t, api.ErrName, "(module A (function f () g))", "(module A (function f () int (call g)))", "(module A (function f () int (call A_f)))", "(module A (function g () int)) (module B (function f () int (call g)))", "(module A (function f () int)) (module B (open A)) (module C (open B) (method g () () (body (reveal f))))",
		"(module A (abstract) (function f () int (call g)))", "(module A (function f () this))", "(module A (function f () true))", "(module A (function f () (seq result)))", "(module A (function f () -))", "(module A (function f () _))", "(module A (function f (tp a) () int (fn ((x b)) 1)))", "(module A (data D (a) (C (x b))))", "(module A (data D (a) (C (x a))) (function f () a))", "(module A (class C (T)))", "(module A (class C () (method m () ()) (method n () () (body (call () m)))))")
	stopped(t, api.ErrDup, "(module A (function f () int)) (module B (method f () ())) (module C (open A) (open B) (function g () int (call f)))", "(module A (data D () (C))) (module B (class C ())) (module E (open B) (open A) (function g ((x C)) int))",
		"(module A (function f () int)) (module B (refines A)) (module C (open A) (open B) (function g () int (call f)))", "(module A (function f () int)) (module B (function f () int)) (module C (open A)) (module D (refines C) (open B) (function g () int (call f)))")
	let(t, "(module A (function f () int)) (module B (method f () ())) (module C (open A) (open B))", "(module A (function f () int)) (module B (method f () ())) (module C (open A) (open B) (function f () int) (function g () int (call f)))", "(module A (function f () int)) (module B (open A) (open A) (function g () int (call f)))",
		"(module A (function f () int)) (module B (open A)) (module C (refines B) (open A) (function g () int (call f)))", "(module A (function f () (seq int) (empty (seq (map bool (bits 3))))))", "(module A (function f () (fun (int) (imap bool bag))))", "(module A (function f () (())))", "(module A (function f ((x int)) int (let (y x) (app y x z))))")
	// The first one from the front.
	stopped(t, api.ErrName, "(module A (function f () int)) (module B (method f () ())) (module C (open A) (open B) (function g () none (call f)))")
	stopped(t, api.ErrDup, "(module A (function f () int)) (module B (method f () ())) (module C (open A) (open B) (function g () int (+ (call f) (call none))))", "(module A (function f () int)) (module B (method f () ())) (module C (open A) (open B) (function g () int (call f (of none)))) (module D (function h () none))")
	// By Order, as D stands behind E.
	stopped(t, api.ErrName, "(module A (function f () int)) (module B (method f () ())) (module D (open A) (open B) (open E) (function g () int (call f))) (module E (function h () none))")
}

// P6.1: of several errors the one that comes first.
func TestFirst(t *testing.T) {
	// Each of these comes ahead of those in the lines below it, wherever it stands.
	l := []struct {
		text string
		err  api.Errno
	}{
		{"(module Z (foo)) ", api.ErrForm},
		{"(module B) (module B) ", api.ErrDup},
		{"(module C (open Nowher)) ", api.ErrName},
		{"(module D (open E)) (module E (open D)) ", api.ErrLoop},
		{"(module F (abstract)) (module G (open F)) ", api.ErrName},
		{"(module H (function f () int)) (module I (refines H) (method f () ())) ", api.ErrType},
		{"(module K (method f () () (body (reveal none)))) ", api.ErrName},
		{"(module L (method longer_than_18bytes () ())) ", api.OK},
	}
	for i, first := range l {
		ahead, behind := first.text, first.text
		for _, other := range l[i+1:] {
			ahead, behind = ahead+other.text, other.text+behind
		}
		refusals(t, ahead, forms(ahead), first.err)
		refusals(t, behind, forms(behind), first.err)
		if _, err := module.Flatten(forms(behind)); first.err == api.OK && err != api.ErrLimit {
			t.Errorf("Flatten %s: error %d", behind, err)
		}
	}
	// Module by module: its own names, refining, all names.
	stopped(t, api.ErrType, "(module A (function f () int)) (module B (refines A) (method f () ())) (module C (method f () ()) (method f () ()))", "(module A (function f () int) (method g () ())) (module B (refines A) (method f () ()) (data D () (g)))")
	stopped(t, api.ErrDup, "(module A (function f () int)) (module C (method f () ()) (method f () ())) (module B (refines A) (method f () ()))", "(module A (function f () int)) (module B (refines A) (method f () ()) (method f () ()))", "(module A (function f () int)) (module B (refines A) (data D () (f))) (module C (refines A) (method f () ()))", "(module B (refines A) (method f () ())) (module A (method f () ()) (method f () ()))")
}

// P6.1: Flatten alone asks how long the names are.
func TestLongNames(t *testing.T) {
	long, longest := strings.Repeat("a", 14), strings.Repeat("a", 13)
	for _, s := range []string{"(module Abcdef (method @ () ()))", "(module Abcdef (ghost (function @ () int)))", "(module Abcdef (data D () (C) (@)))", "(module Abcdef (codata @ () (C)))", "(module A (abstract) (method @ () ())) (module Abcdef (refines A))"} {
		l := forms(strings.ReplaceAll(s, "@", long))
		refusals(t, s, l, api.OK)
		if decls, err := module.Flatten(l); err != api.ErrLimit || len(decls) > 0 {
			t.Errorf("Flatten %s: %s", s, told(decls, err))
		}
		for _, name := range []string{"Abcdef", "A"} {
			if _, err := module.Full(l, name); err != api.OK && name == "Abcdef" {
				t.Errorf("Full %s: error %d", s, err)
			}
		}
		if _, err := module.Flatten(forms(strings.ReplaceAll(s, "@", longest))); err != api.OK {
			t.Errorf("Flatten %s: error %d", s, err)
		}
	}
	// What is never written: names of abstract modules, members, variables.
	for _, s := range []string{"(module Abcdef (abstract) (method @ () ()))", "(module Abcdef (class C () (field @ int) (method m@ ((@ int)) ())))", "(module Abcdef (data D (@) (C (@ @))) (function f (tp @) ((@ @)) int (let (@ 1) (get @ 2))))", "(module A (method @ () ())) (module Abcdef (open A) (method m () () (body (call () @))))"} {
		if _, err := module.Flatten(forms(strings.ReplaceAll(s, "@", long))); err != api.OK {
			t.Errorf("Flatten %s: error %d", s, err)
		}
	}
}

// R5: no function changes what it gets, and what it returns is its own.
func TestArgumentsStay(t *testing.T) {
	l := forms("(module A (abstract) (class C () (field x int) (method m () ())) (method f () ())) (module B (open O) (refines A) (class C () (method m () () (body))) (method f () () (ensures (call o)) (body (call () f)))) (module O (function o () int))")
	before := cloned(l)
	for range 2 {
		full, err := module.Full(l, "O")
		if err != api.OK || written(full) != "(function o () int)" {
			t.Errorf("Full: %s", told(full, err))
		}
		full[0] = api.Form{}
		names, _ := module.Declares(l, "B")
		names[0] = ""
		decls, _ := module.Flatten(l)
		decls[0].Kids[1].Text = "lost"
		decls[len(decls)-1].Kids[1].Text = "lost"
	}
	a, b := form("(class C () (field x int) (method m () ()))"), form("(class C () (method m () () (body)) (method n () ()))")
	if f, err := module.Refine(a, b); err != api.OK || written([]api.Form{f}) != "(class C () (field x int) (method m () () (body)) (method n () ()))" {
		t.Errorf("Refine: %s", told([]api.Form{f}, err))
	}
	for i := range l {
		if !identical(clone(l[i]), before[i]) {
			t.Errorf("changed: %s", written(l[i:i+1]))
		}
	}
}
