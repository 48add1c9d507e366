package shape_test

import (
	"strings"
	"testing"

	"plinth/api"
	"plinth/shape"
)

// decls are declarations: of each head with as few and with more Kids.
var decls = []string{
	"(data D () (A))", "(data D (a b) (A) (B (x a)) (C (x a) (y (seq b))))", "(data D (a) (eq a) (A))", "(data D (a b) (eq b a) (A (x int)) (B (x int)))", "(data D () (D (D D)))", "(codata S (a) (Cons (h a) (t (S a))))", "(codata S (a) (eq a) (C))",
	"(sub nat (n int) (<= 0 n) 0)", "(sub s (x (seq int)) true (seq))",
	"(trait T ())", "(trait T (A B A) (field x int))", "(class C ())", "(class C (T) (field x int) (ghost (field y (set int))))",
	"(class C () (function f () int) (predicate p ()) (twostate t ()) (method m () ()) (lemma l () ()) (ghost (function g () int)) (ghost (predicate q ())) (ghost (method n () ())))",
	"(trait T () (function f ((x int)) int (requires true) x) (method m ((x int)) ((y int)) (requires true) (modifies this) (body (set y x))))",
	"(function f () int)", "(function f () int 1)", "(function f ((x int) (y a)) (seq a) (seq x y))", "(function f (tp a) ((x a)) a x)", "(function f (tp a b) () int)",
	"(function f () int (requires true) (ensures (< 0 result)) (reads) (reads x y) (decreases) (opaque) (fuel 3) 1)", "(function f () int (requires a) (requires a) (ensures a) (ensures a) (reads a) (reads a))",
	"(function f () int (decreases x y))", "(function f () int (fuel 3))", "(function f () int (fuel -3) 1)", "(function f () int (fuel 1000))", "(function f () int (fuel 1 f x))", "(function f () int (fuel 2) (fuel 1 f x))", "(function f () (requires true) (requires true))", "(function f () () 1)",
	"(function f () int (by) 1)", "(function f () int (requires true) (opaque) (by (set result 1) (leave)) 1)",
	"(function f () int (by (call (result) g) (send (result) o m) (choose result 1 2 true) (new result C) (assert a (by (set result 1))) (if a ((set result 1)) ())) 1)",
	"(predicate p ())", "(predicate p ((x int)) x)", "(predicate p (tp a) ((x a)) (requires true) (ensures result) (reads x) (decreases x) (opaque) (fuel 1) (by (set result true)) true)",
	"(twostate t ())", "(twostate t ((x int)) (= x (old x)))", "(twostate t ((x int)) (requires true) (ensures result) (reads x) (decreases x) (opaque) (fuel 1) (by) true)",
	"(least l () true)", "(least l ((x int)) (call l x))", "(greatest g ((x int) (y int)) (fuel 1 f x))",
	"(method m () ())", "(method m () () (body))", "(method m ((x int) (y int)) ((z int) (w int)) (requires a) (ensures a) (modifies x y) (modifies) (decreases x) (requires a) (body (set z x) (leave)))",
	"(lemma l ((x int)) ())", "(lemma l ((x int)) ((y int)) (requires a) (ensures a) (modifies) (decreases) (body))", "(extern e ((x int)) ((y int)) (requires a) (ensures a))", "(extern e () () (body))",
	"(ghost (function f () int 1))", "(ghost (function f (tp a) ((x a)) a x))", "(ghost (predicate p () true))", "(ghost (method m () () (body)))",
}

// P4.1: what is a declaration.
func TestDecl(t *testing.T) {
	asked(t, questions()[2], allTold(api.OK, decls...))
}

// P4.1: heads that are none, other Kids than said, names that are none.
func TestNoDecl(t *testing.T) {
	asked(t, questions()[2], allTold(api.ErrForm,
		"1", "x", `"x"`, "()", "(())", "(1 f)", "(foo f)", "((data D () (A)))", "(field x int)", "(ghost (field x int))", "(module M)", "(open M)", "(body)", "(requires true)", "(iterator i () ())", "(tp a)", "(by)", "(block)", "(+ 1 2)",
		// data and codata.
		"(data)", "(data D)", "(data D ())", "(data D A)", "(data D () A)", "(data D () ())", "(data D (A))", "(data (D) () (A))", "(data 1 () (A))", "(data D a (A))", "(data D ((a)) (A))", "(data D (1) (A))", "(data D () (1))", "(data D () ((A)))", "(data D () (A) x)",
		"(data D () (A x))", "(data D () (A x int))", "(data D () (A (x)))", "(data D () (A (x int int)))", "(data D () (A (x 1)))", `(data D () (A (x "int")))`, "(data D () (A (1 int)))", "(data D () (A ((x) int)))", "(data D () (A ()))",
		"(data D (a) (eq a))", "(data D (a) (eq) (A))", "(data D (a) (eq b) (A))", "(data D () (eq a) (A))", "(data D (a) (eq 1) (A))", "(data D (a) (eq (a)) (A))", "(data D (a) (A) (eq a))", "(data D (a) (eq a) (eq a) (A))", "(data D (eq a) (A))", "(codata S ())", "(codata S () (eq))",
		// sub.
		"(sub)", "(sub n (x int) true)", "(sub n (x int) true 0 0)", "(sub n x true 0)", "(sub n (x) true 0)", "(sub n (x int int) true 0)", "(sub n (x 1) true 0)", "(sub 1 (x int) true 0)", "(sub n (1 int) true 0)", "(sub n ((x int)) true 0)", "(sub n (x int) (foo) 0)", "(sub n (x int) true (foo))",
		// trait and class.
		"(trait)", "(trait T)", "(trait T A)", "(trait T (1))", "(trait T ((A)))", "(trait 1 ())", "(class C)", "(class C T)", "(class C () x)", "(class C () ())", "(class C () (foo))", "(class (C) ())", "(class C (field x int))",
		"(class C () (field))", "(class C () (field x))", "(class C () (field x int 1))", "(class C () (field 1 int))", "(class C () (field x 1))", "(class C () (field (x int)))", "(class C () (ghost))", "(class C () (ghost x))", "(class C () (ghost (field x int) (field y int)))", "(class C () (ghost (ghost (field x int))))", "(class C () (ghost (field x)))",
		"(class C () (ghost (lemma l () ())))", "(class C () (ghost (twostate t ())))", "(class C () (extern e () ()))", "(class C () (least l () true))", "(class C () (greatest l () true))", "(class C () (data D () (A)))", "(class C () (class D ()))", "(class C () (sub n (x int) true 0))", "(class C () (method m ()))", "(class C () (method 1 () ()))", "(class C () (body))",
		"(class C () (function f (tp a) () int))", "(class C () (predicate f (tp a) ()))", "(class C () (ghost (function f (tp a) () int)))", "(class C () (ghost (predicate f (tp a) () true)))", "(class C () (method m (tp a) () ()))", "(class C () (twostate t (tp a) ()))",
		// function, predicate, twostate.
		"(function)", "(function f)", "(function f ())", "(function f (tp a) ())", "(function f int)", "(function f () 1)", `(function f () "int")`, "(function 1 () int)", "(function (f) () int)", "(function f (x) int)", "(function f (x int) int)", "(function f ((x)) int)", "(function f ((x 1)) int)", "(function f ((1 int)) int)", "(function f ((result int)) int)", "(function f x int)",
		"(function f (tp) () int)", "(function f (tp 1) () int)", "(function f (tp (a)) () int)", "(function f () (tp a) int 1)", "(function f (tp a) (tp b) () int)", "(function f () int 1 2)", "(function f () int 1 (requires a))", "(function f () int (foo) 1)", "(function f () int x (requires a) 1)", "(function f () int (foo))",
		"(function f () int (requires))", "(function f () int (requires a b))", "(function f () int (requires (foo)))", "(function f () int (ensures) 1)", "(function f () int (ensures a b) 1)", "(function f () int (reads (foo)))", "(function f () int (decreases (foo)))", "(function f () int (opaque 1))", "(function f () int (opaque ()) 1)", "(function f () int (fuel))", "(function f () int (fuel) 1)", "(function f () int (fuel x))", "(function f () int (fuel x) 1)", "(function f () int (fuel 1 2))", "(function f () int (fuel 1 2) 1)", "(function f () int (fuel 1 f x) 1)", "(function f () int (fuel (neg 1)))",
		"(function f () int (modifies x))", "(function f () int (modifies x) 1)", "(function f () int (invariant a) 1)", "(function f () int (body))", "(function f () int (body) 1)", "(function f () int (trigger x) 1)",
		"(function f () int (by))", "(function f () int (by (set result 1)))", "(function f () int (by) (requires a))", "(function f () int (by) (requires a) 1)", "(function f () int 1 (by))", "(function f () int (by 1) 1)", "(function f () int (by (foo)) 1)", "(function f () int (by x) 1)", "(function f () int (by (var result int)) 1)", "(function f () int (by (by)) 1)",
		"(predicate p)", "(predicate p () true false)", "(predicate p () bool true)", "(predicate p (tp) ())", "(predicate p () (by))", "(predicate p () (modifies))", "(twostate t)", "(twostate t (tp a) ())", "(twostate t (tp a) () true)", "(twostate t () bool true)", "(twostate t () (by))",
		// least, greatest.
		"(least l)", "(least l ())", "(least l () true true)", "(least l () (requires true) true)", "(least l (tp a) () true)", "(least l x true)", "(least l ((x)) true)", "(least l () (foo))", "(least 1 () true)", "(least l () (decreases x))", "(greatest g ())", "(greatest g () (opaque) true)", "(greatest g (x int) true)", "(greatest g () bool true)",
		// method, lemma, extern.
		"(method)", "(method m)", "(method m ())", "(method m () x)", "(method m x ())", "(method 1 () ())", "(method m (x) ())", "(method m () (x))", "(method m ((x)) ())", "(method m () ((x 1)))", "(method m (tp a) () ())", "(method m () () 1)", "(method m () () (foo))", "(method m () () x)", "(method m () () (leave))",
		"(method m () () (body) (requires a))", "(method m () () (body) (body))", "(method m () () (body) 1)", "(method m (body) ())", "(method m () (body))", "(method m () () (body 1))", "(method m () () (body x))", "(method m () () (body (foo)))", "(method m () () (body) ())",
		"(method m () () (reads x))", "(method m () () (opaque))", "(method m () () (fuel 1))", "(method m () () (by))", "(method m () () (invariant a))", "(method m () () (requires))", "(method m () () (requires a b))", "(method m () () (ensures))", "(method m () () (modifies (foo)))", "(method m () () (decreases (foo)))", "(method m () () (requires (foo)) (body))",
		"(method m () ((result int)))", "(method m ((this int)) ())", "(lemma l ())", "(lemma l () () 1)", "(lemma l () () (reads))", "(lemma (x 1 2) (requires a) f)", "(lemma l () () (body (foo)))", "(extern e ())", "(extern e () () 1)", "(extern e () () (reads x))", "(extern e (tp a) () ())",
		// ghost.
		"(ghost)", "(ghost 1)", "(ghost x)", "(ghost ())", "(ghost (foo))", "(ghost (lemma l () ()))", "(ghost (twostate t ()))", "(ghost (least l () true))", "(ghost (greatest g () true))", "(ghost (extern e () ()))", "(ghost (data D () (A)))", "(ghost (class C ()))", "(ghost (sub n (x int) true 0))", "(ghost (ghost (method m () ())))", "(ghost (method m () ()) (method n () ()))", "(ghost (method m ()))", "(ghost (leave))",
	))
}

// P4.1: each name that a declaration has may be no reserved word, and none that
// is written as no name.
func TestNamesInDecl(t *testing.T) {
	words := append(shape.Reserved(), "1a", "_a", "a-b", "-", strings.Repeat("a", 21))
	for _, s := range []string{"(data @ () (A))", "(data D (@) (A))", "(data D () (@))", "(data D () (A (@ int)))", "(codata @ () (A))", "(sub @ (x int) true 0)", "(sub n (@ int) true 0)", "(trait @ ())", "(trait T (@))", "(class @ ())", "(class C (@))", "(class C () (field @ int))", "(class C () (ghost (field @ int)))",
		"(function @ () int)", "(function f (tp @) () int)", "(function f ((@ int)) int)", "(predicate @ ())", "(predicate p (tp a @) ())", "(predicate p ((@ int)))", "(twostate @ ())", "(twostate t ((@ int)))", "(least @ () true)", "(least l ((@ int)) true)", "(greatest @ () true)",
		"(method @ () ())", "(method m ((@ int)) ())", "(method m () ((@ int)))", "(lemma @ () ())", "(extern @ () ())", "(ghost (method @ () ()))", "(class C () (method @ () ()))"} {
		for _, w := range words {
			asked(t, questions()[2], allTold(api.ErrForm, strings.Replace(s, "@", w, 1)))
		}
		asked(t, questions()[2], allTold(api.OK, strings.Replace(s, "@", "a_1", 1), strings.Replace(s, "@", strings.Repeat("b", 20), 1)))
	}
	for _, s := range []string{"(data D () (A (x @)))", "(sub n (x @) true 0)", "(class C () (field x @))", "(function f ((x @)) int)", "(function f () @)", "(method m ((x @)) ((y @)))", "(least l ((x @)) true)"} {
		for _, w := range append(words, "()", "(3)", "(seq 1 2)", "(())") {
			asked(t, questions()[2], allTold(api.OK, strings.ReplaceAll(s, "@", w)))
		}
	}
}

// P4.1: the word result is assigned within the by of a function alone.
func TestResultAssigned(t *testing.T) {
	for _, s := range []string{"(set result 1)", "(new result C)", "(choose result 1 2 true)", "(call (result) f)", "(call (x result) f 1)", "(send (result) o m)", "(send (x result) o m)",
		"(block (set result 1))", "(assert a (by (set result 1)))", "(calc 1 (= 1 (by (set result 1))))", "(ghost (set result 1))", "(if a () ((set result 1)))", "(while a () (set result 1))", "(case 1 (C () (set result 1)))", "(label l (set result 1))"} {
		for _, d := range []string{"(function f () int (by @) 1)", "(predicate p () (by @) 1)", "(twostate t () (by @) 1)", "(class C () (function f () int (by @) 1))", "(ghost (predicate p () (by @) 1))"} {
			asked(t, questions()[2], allTold(api.OK, strings.Replace(d, "@", s, 1)))
		}
		for _, d := range []string{"(method m () () (body @))", "(lemma l () () (body @))", "(extern e () () (body @))", "(ghost (method m () () (body @)))", "(class C () (method m () () (body @)))", "(class C () (lemma m () () (body @)))", "(method m () () (body (assert a (by @))))"} {
			asked(t, questions()[2], allTold(api.ErrForm, strings.Replace(d, "@", s, 1)))
		}
	}
	asked(t, questions()[2], allTold(api.OK, "(method m () ((y int)) (ensures result) (body (set y result) (assert result (by (set y result)))))", "(sub n (x int) result result)"))
}

// P4.1: what stands twice in a declaration.
func TestTwiceInDecl(t *testing.T) {
	asked(t, questions()[2], allTold(api.ErrDup,
		"(data D (a a) (A))", "(data D (a b) (eq a a) (A))", "(data D () (A) (A))", "(data D () (A (x int)) (B) (A))", "(data D () (A (x int) (x int)))", "(codata S () (A) (B (x int) (y int) (x bool)))", "(codata S (a) (eq a) (A) (A))",
		"(class C () (field x int) (field x int))", "(class C () (field x int) (ghost (field x int)))", "(class C () (field x int) (method x () ()))", "(trait C () (function m () int) (ghost (predicate m ())))", "(trait C () (lemma m () ()) (twostate m ()))",
		"(function f (tp a a) () int)", "(function f ((x int) (x int)) int)", "(predicate p (tp a b a) ())", "(predicate p ((x int) (x int)))", "(twostate p ((x int) (x int)))", "(least l ((x int) (x int)) true)", "(greatest l ((x int) (x int)) true)",
		"(method m ((x int) (x int)) ())", "(method m () ((x int) (x int)))", "(method m ((x int)) ((x int)))", "(method m ((y int) (x int)) ((z int) (y int)) (body))", "(lemma m ((x int)) ((x int)))", "(extern m ((x int)) ((x int)))",
		"(function f () int (decreases) (decreases))", "(function f () int (decreases x) (requires a) (decreases x) 1)", "(function f () int (fuel 1) (fuel 2))", "(function f () int (opaque) (opaque) 1)", "(function f () int (by) (by) 1)", "(predicate p () (opaque) (fuel 1) (opaque))", "(twostate p () (by) (by) true)", "(method m () () (decreases) (decreases))", "(lemma m () () (decreases x) (decreases) (body))",
		"(class C () (method m ((x int) (x int)) ()))", "(ghost (method m ((x int) (x int)) ()))", "(method m () () (body (call (x x) f)))", "(sub n (x int) (fn ((x int) (x int)) 1) 0)",
	))
	asked(t, questions()[2], allTold(api.OK,
		"(data D (D) (D (D D)))", "(data D () (A (x int)) (B (x int)))", "(class C (T T))", "(class C () (field C int) (method m ((m int)) ()))", "(function f (tp a) ((a a) (f a)) a)",
		"(function f () int (requires a) (requires a) (ensures a) (ensures a) (reads) (reads))", "(method m () () (modifies) (modifies) (requires a) (requires a))", "(function f () int (fuel 1) (fuel 1 f x))",
		"(method m ((x int)) () (body (var x int) (var x int)))", "(method m () () (decreases) (body (while a ((decreases)))))",
	))
}

// P4.1: the first error in a declaration, outside ahead of inside, from the
// front; of what is twice behind all that stands in its list.
func TestFirstOfDecl(t *testing.T) {
	asked(t, questions()[2], []told{
		{"(data D (a a) (A (x 1)))", api.ErrDup}, {"(data D (a a) x)", api.ErrForm}, {"(data D (a a))", api.ErrForm}, {"(data D (a a 1) (A))", api.ErrForm}, {"(data D () (A) (A) (B (x)))", api.ErrForm}, {"(data D () (A (x int) (x int)) (B (x)))", api.ErrDup}, {"(data D () (A (x int) (x int) (y)))", api.ErrForm}, {"(data D () (B (x)) (A (x int) (x int)))", api.ErrForm},
		{"(data D (a) (eq a a) (A (x)))", api.ErrDup}, {"(data D (a) (eq a a b) (A))", api.ErrForm}, {"(data D (a a) (eq b) (A))", api.ErrDup},
		{"(class C () (field x int) (field x int) (foo))", api.ErrForm}, {"(class C () (method m ((x int) (x int)) ()) (foo))", api.ErrDup}, {"(class C () (method m ((x int) (x int)) ()) 1)", api.ErrDup}, {"(class C () (foo) (method m ((x int) (x int)) ()))", api.ErrForm}, {"(class C (1) (method m ((x int) (x int)) ()))", api.ErrForm},
		// A member with tp.
		{"(class C () (function f (tp a a) () int))", api.ErrForm}, {"(class C () (function f (tp a) ((x int) (x int)) int))", api.ErrForm}, {"(class C () (ghost (predicate f (tp a a) ())))", api.ErrForm},
		// Behind the list of params, ahead of the clauses; both lists behind all.
		{"(function f ((x int) (x int)) int (foo) 1)", api.ErrDup}, {"(function f ((x int) (x int)) 1 1)", api.ErrForm}, {"(function f ((x int) (x int) 1) int)", api.ErrForm}, {"(function f ((x int) (x int)) int x 1)", api.ErrDup}, {"(function f (tp a a) ((x)) int)", api.ErrDup}, {"(function f ((x int) (x int)) int (by))", api.ErrForm},
		{"(function f () int (decreases) (decreases) (foo))", api.ErrForm}, {"(function f () int (decreases) (decreases) (requires) 1)", api.ErrForm}, {"(function f () int (by) (by (foo)) 1)", api.ErrForm}, {"(function f () int (by) (requires a) (by) 1)", api.ErrForm}, {"(function f () int (by) (by))", api.ErrForm},
		{"(method m ((x int)) ((x int)) (body (foo)))", api.ErrForm}, {"(method m ((x int)) ((x int)) (requires))", api.ErrForm}, {"(method m ((x int) (x int)) ((y)))", api.ErrDup}, {"(method m () ((x int) (x int)) (foo))", api.ErrDup}, {"(method m ((x int) (x int)) () 1)", api.ErrDup}, {"(method m ((x int) (x int)) y)", api.ErrForm},
		{"(method m () () (decreases) (decreases) (body (foo)))", api.ErrForm}, {"(method m () () (body (call (x x) f) (foo)))", api.ErrDup}, {"(method m () () (ensures (foo)) (body (call (x x) f)))", api.ErrForm}, {"(method m () () (body (set result 1) (call (x x) f)))", api.ErrForm}, {"(method m () () (body (call (x x) f) (set result 1)))", api.ErrDup}, {"(method m () () (body (call (result result) f)))", api.ErrForm}, {"(function f () int (by (call (result result) f)) 1)", api.ErrDup},
		{"(least l ((x int) (x int)) (foo))", api.ErrDup}, {"(least l ((x int) (x int)) true true)", api.ErrForm}, {"(sub n (x 1) (fn ((x int) (x int)) 1) 0)", api.ErrForm}, {"(sub n (x int) (fn ((x int) (x int)) 1) (foo))", api.ErrDup},
	})
}
