package binder_test

import (
	"slices"
	"strconv"
	"strings"
	"testing"

	"plinth/api"
	"plinth/binder"
	"plinth/reader"
)

// A replacement: a form, the pairs, and what Replace makes of it.
type replacement struct{ f, by, want string }

func replaceAll(t *testing.T, cases []replacement) {
	t.Helper()
	for _, c := range cases {
		f, by := form(c.f), pairs(c.by)
		before, byBefore := clone(f), written(by)
		if got := told(binder.Replace(f, by)); got != c.want {
			t.Errorf("Replace %s by %s:\n got %s\nwant %s", c.f, c.by, got, c.want)
		}
		if !identical(f, before) || written(by) != byBefore {
			t.Errorf("Replace %s by %s has changed its arguments", c.f, c.by)
		}
	}
}

// P5.2: what is free is replaced, all at once, and nothing else.
func TestReplaceFree(t *testing.T) {
	replaceAll(t, []replacement{
		{"x", "x y", "y"}, {"x", "x 1", "1"}, {"x", "x (+ x 1)", "(+ x 1)"}, {"x", "y 1", "x"}, {"x", "x true", "true"}, {"x", "x result", "result"}, {"(+ x this)", "x this", "(+ this this)"}, {"7", "x y", "7"}, {"()", "x (+ 1 2)", "()"},
		{"(and true false null this result)", "x 1", "(and true false null this result)"}, {"(and _ x' x)", "x 1", "(and _ x' 1)"},
		// At once: what was put in is not replaced again.
		{"(+ x y)", "x y y x", "(+ y x)"}, {"(and x y z)", "x y y z z x", "(and y z x)"}, {"(+ x y)", "x (+ y y) y 3", "(+ (+ y y) 3)"}, {"(+ x x)", "x (neg x)", "(+ (neg x) (neg x))"},
		// Names of functions, types, CTORs, fields and labels stay.
		{"(call x (of x (seq x)) x (get x x) (is x x) (make x (of x) x) (make x x) (old x x) (fuel 3 x x) (prefix x x x) (app x x) (imap x x) (empty x) (map (x x)) (fn ((y x)) x))", "x 1",
			"(call x (of x (seq x)) 1 (get x 1) (is x 1) (make x (of x) 1) (make x 1) (old x 1) (fuel 3 x 1) (prefix x 1 1) (app 1 1) (imap 1 x) (empty x) (map (1 1)) (fn ((y x)) 1))"},
		{"(match x (x (y) x))", "x 1", "(match 1 (x (y) 1))"}, {"((var y x) (label x (reveal x)) (store x x x) (new z x (x x)) (call () x x) (send () x x x) (case x (x () (assert x))) (lemma (y x x) (requires x) x x))", "x 1",
			"((var y x) (label x (reveal x)) (store 1 x 1) (new z x (x 1)) (call () x 1) (send () 1 x 1) (case 1 (x () (assert 1))) (lemma (y 1 1) (requires 1) x 1))"},
		{"((assume x) (expect x) (if x ((assert x)) ((assert x (by (assert x))))) (while x ((invariant x) (decreases x x) (modifies x)) (assert x)) (calc x (= x (by (assert x))) (iff x)) (ghost (assert x)) (block (assert x)) (each (i x x) (store x f x)))", "x 1",
			"((assume 1) (expect 1) (if 1 ((assert 1)) ((assert 1 (by (assert 1))))) (while 1 ((invariant 1) (decreases 1 1) (modifies 1)) (assert 1)) (calc 1 (= 1 (by (assert 1))) (iff 1)) (ghost (assert 1)) (block (assert 1)) (each (i 1 1) (store 1 f 1)))"},
		// A binder's own names are left alone within it, not in the parts that it does not hold.
		{"(let (x x) x)", "x 1", "(let (x 1) x)"}, {"(pick (x x x) x x)", "x 1", "(pick (x 1 1) x x)"}, {"(match x (C (x) x) (D () x))", "x 1", "(match 1 (C (x) x) (D () 1))"}, {"(fn ((x t) (y t)) (and x y z))", "x 1 y 2 z 3", "(fn ((x t) (y t)) (and x y 3))"},
		{"(forall ((x t)) (trigger x y) (and x y))", "x 1 y 2", "(forall ((x t)) (trigger x 2) (and x 2))"}, {"(exists ((x t)) (trigger y) x)", "x 1 y 2", "(exists ((x t)) (trigger 2) x)"}, {"(all (x x x) x)", "x 1", "(all (x 1 1) x)"}, {"(some (x x x) x)", "x 1", "(some (x 1 1) x)"}, {"(every (x x) x)", "x 1", "(every (x 1) x)"}, {"(any (x x) x)", "x 1", "(any (x 1) x)"},
		{"((assert x) (var x t x) (assert x))", "x 1", "((assert 1) (var x t 1) (assert x))"}, {"((block (var x t x) (assert x)) (assert x))", "x 1", "((block (var x t 1) (assert x)) (assert 1))"}, {"((case x (C (x) (assert x)) (D () (assert x))))", "x 1", "((case 1 (C (x) (assert x)) (D () (assert 1))))"},
		{"((each (x x x) (store x f x)) (lemma (x x x) (requires x) f x) (assert x))", "x 1", "((each (x 1 1) (store x f x)) (lemma (x 1 1) (requires x) f x) (assert 1))"}, {"((while x ((invariant x)) (var x t x) (assert x)) (assert x))", "x 1", "((while 1 ((invariant 1)) (var x t 1) (assert x)) (assert 1))"},
		{"((if x ((var x t)) ((assert x))) (calc x (= x (by (var x t) (assert x))) (= x)) (assert x (by (var x t) (assert x))) (ghost (var x t) (assert x)) (label l (var x t) (assert x)))", "x 1",
			"((if 1 ((var x t)) ((assert 1))) (calc 1 (= 1 (by (var x t) (assert x))) (= 1)) (assert 1 (by (var x t) (assert x))) (ghost (var x t) (assert x)) (label l (var x t) (assert x)))"},
		{"((choose x y z (< x y)))", "y 1 z 2", "((choose x 1 2 (< x 1)))"},
	})
}

// P5.2: what is assigned, and free, becomes another name.
func TestReplaceAssigned(t *testing.T) {
	const assigning = "((set x 1) (new x C (f x)) (call (x y) f x) (send (y x) x m x) (choose x x x x))"
	replaceAll(t, []replacement{
		{assigning, "x z", strings.NewReplacer("x", "z").Replace(assigning)}, {"((set x y))", "x y y x", "((set y x))"}, {"((call (x y) f))", "x y y x", "((call (y x) f))"}, {"((set x x))", "x a_1", "((set a_1 a_1))"},
		{"((set result result) (set x result))", "x y", "((set result result) (set y result))"}, {"((call (x y) f))", "x y", "((call (y y) f))"},
		// All else is ErrType, at each statement that assigns.
		{"((set x 1))", "x 2", "error 8"}, {"((new x C))", "x (seq)", "error 8"}, {"((call (y x) f))", "x (+ 1 2)", "error 8"}, {"((send (x) y m))", "x 3", "error 8"}, {"((choose x 0 1 true))", "x (neg x)", "error 8"},
		// A word that is an expression, but no name, too.
		{"((set x 1))", "x true", "error 8"}, {"((set x 1))", "x this", "error 8"}, {"((set x 1))", "x result", "error 8"}, {"((set x 1))", "x _", "error 8"}, {"((set x 1))", "x y'", "error 8"}, {"((set x 1))", "x abcdefghijklmnopqrstu", "error 8"},
		{"((block (if c () ((label l (set x 1))))))", "x 1", "error 8"}, {"((assert c (by (calc c (= c (by (set x 1)))))))", "x 1", "error 8"}, {"((case x (C (y) (while x () (ghost (set x 1))))))", "x 1", "error 8"}, {"((set x 1) (var x t))", "x 1", "error 8"}, {"((block (var x t)) (set x 1))", "x 1", "error 8"},
		// What is not free there is not replaced.
		{"((var x t x) (set x 1))", "x 1", "((var x t 1) (set x 1))"}, {"((case x (C (x) (set x 1))))", "x 1", "((case 1 (C (x) (set x 1))))"}, {"((assert x) (each (y x x) (store x f x)))", "x 1", "((assert 1) (each (y 1 1) (store 1 f 1)))"}, {"((set y x) (store x f x))", "x 1", "((set y 1) (store 1 f 1))"},
		// In an expression set assigns nothing.
		{"(set x 1)", "x 2", "(set 2 1)"}, {"(call f x)", "x 2", "(call f 2)"},
		// What a pair maps to itself is not replaced.
		{"((set x x))", "x x", "((set x x))"},
	})
}

// P5.2: a binder's name gets another one where it would bind what is put in.
func TestReplaceWithoutCapture(t *testing.T) {
	replaceAll(t, []replacement{
		// Example 1.
		{"(let (y 1) (+ x y))", "x y", "(let (y_1 1) (+ y y_1))"},
		// Each binder.
		{"(let (y x) (+ x y))", "x (neg y)", "(let (y_1 (neg y)) (+ (neg y) y_1))"}, {"(pick (y y 2) x y)", "x y", "(pick (y_1 y 2) y y_1)"}, {"(pick (y 1 2) y x)", "x y", "(pick (y_1 1 2) y_1 y)"}, {"(match y (C (z y) (and x y z)) (D (z) (and x z)) (E (y) y))", "x y", "(match y (C (z y_1) (and y y_1 z)) (D (z) (and y z)) (E (y) y))"},
		{"(fn ((y y)) (+ x y))", "x y", "(fn ((y_1 y)) (+ y y_1))"}, {"(forall ((y t)) (trigger x) y)", "x y", "(forall ((y_1 t)) (trigger y) y_1)"}, {"(exists ((y t)) (trigger y) x)", "x y", "(exists ((y_1 t)) (trigger y_1) y)"}, {"(all (y y y) (< x y))", "x y", "(all (y_1 y y) (< y y_1))"}, {"(some (y 0 1) (< x y))", "x y", "(some (y_1 0 1) (< y y_1))"}, {"(every (y y) (< x y))", "x y", "(every (y_1 y) (< y y_1))"}, {"(any (y y) (< x y))", "x y", "(any (y_1 y) (< y y_1))"},
		{"((var y t y) (set y x) (block (set y x)))", "x y", "((var y_1 t y) (set y_1 y) (block (set y_1 y)))"}, {"((case y (C (y) (set y x) (assert y)) (D () (assert x))))", "x y", "((case y (C (y_1) (set y_1 y) (assert y_1)) (D () (assert y))))"}, {"((each (y y y) (store y f x)))", "x y", "((each (y_1 y y) (store y_1 f y)))"}, {"((lemma (y y y) (requires x) f y))", "x y", "((lemma (y_1 y y) (requires y) f y_1))"}, {"((lemma (y 0 1) (requires y) f y x))", "x y", "((lemma (y_1 0 1) (requires y_1) f y_1 y))"},
		// Only where it is really put in: in the parts that the binder holds, and free there.
		{"(let (y x) y)", "x y", "(let (y y) y)"}, {"(pick (y x x) y y)", "x y", "(pick (y y y) y y)"}, {"(match x (C (y) y))", "x y", "(match y (C (y) y))"}, {"(fn ((x t) (y t)) (+ x y))", "x y", "(fn ((x t) (y t)) (+ x y))"}, {"(let (y 1) (let (x y) (+ x y)))", "x y", "(let (y 1) (let (x y) (+ x y)))"}, {"(let (y 1) (let (x x) (+ x y)))", "x y", "(let (y_1 1) (let (x y) (+ x y_1)))"}, {"((var y t x) (set y 1))", "x y", "((var y t y) (set y 1))"}, {"((block (var y t) (assert y)) (assert x))", "x y", "((block (var y t) (assert y)) (assert y))"}, {"((while x ((invariant x)) (var y t)))", "x y", "((while y ((invariant y)) (var y t)))"},
		// Only where it is free in what is put in.
		{"(let (y 1) (+ x y))", "x (let (y 2) y)", "(let (y 1) (+ (let (y 2) y) y))"}, {"(let (y 1) (+ x y))", "x (call y (of y) (get y 3))", "(let (y 1) (+ (call y (of y) (get y 3)) y))"}, {"(let (y 1) (+ x y))", "x (+ (let (y 2) y) y)", "(let (y_1 1) (+ (+ (let (y 2) y) y) y_1))"},
		// What a pair maps to itself is not put in.
		{"(let (y 1) (+ x y))", "y y", "(let (y 1) (+ x y))"}, {"(fn ((x t)) (+ x z))", "z z", "(fn ((x t)) (+ x z))"}, {"(let (y 1) (and x y z))", "x x z 3", "(let (y 1) (and x y 3))"},
		// What is assigned is put in, too.
		{"((var y t) (set x 1) (set y 2))", "x y", "((var y_1 t) (set y 1) (set y_1 2))"}, {"((case c (C (y) (call (x) f y))))", "x y", "((case c (C (y_1) (call (y) f y_1))))"},
		// A name that is bound but not used gets another one, too.
		{"(let (y 1) x)", "x y", "(let (y_1 1) y)"}, {"((var y t) (assert x))", "x y", "((var y_1 t) (assert y))"},
		// A var again of a name that is there.
		{"((var y t) (set y 1) (var y t y) (set y x))", "x y", "((var y_1 t) (set y_1 1) (var y_1 t y_1) (set y_1 y))"}, {"((var y t) (assert x) (var y t y) (set y 1))", "x y", "((var y_1 t) (assert y) (var y t y_1) (set y 1))"},
		// From outside to inside.
		{"(let (y 1) (let (y y) (+ x y)))", "x y", "(let (y_1 1) (let (y_1 y_1) (+ y y_1)))"}, {"(let (y 1) (let (z y) (and x y z)))", "x (+ y z)", "(let (y_1 1) (let (z_1 y_1) (and (+ y z) y_1 z_1)))"}, {"(let (y 1) (and (let (y 2) (+ x y)) y))", "x y", "(let (y_1 1) (and (let (y_1 2) (+ y y_1)) y_1))"},
		{"(let (y 1) (let (y_2 y) (and x y y_2)))", "x (+ y y_2)", "(let (y_1 1) (let (y_3 y_1) (and (+ y y_2) y_1 y_3)))"},
	})
}

// P5.2: which names the new one of a binder avoids.
func TestReplaceAvoids(t *testing.T) {
	replaceAll(t, []replacement{
		// Variables in the binder: free ones, bound ones, in its first parts too, and assigned ones.
		{"(let (y 1) (and x y y_1))", "x y", "(let (y_2 1) (and y y_2 y_1))"}, {"(let (y y_1) (and x y))", "x y", "(let (y_2 y_1) (and y y_2))"}, {"(let (y 1) (and x y (let (y_1 y) 3)))", "x y", "(let (y_2 1) (and y y_2 (let (y_1 y_2) 3)))"}, {"(let (y (let (y_1 1) 2)) (+ x y))", "x y", "(let (y_2 (let (y_1 1) 2)) (+ y y_2))"},
		{"((var y t y_1) (assert x))", "x y", "((var y_2 t y_1) (assert y))"}, {"((var y t) (assert x) (var y_1 t))", "x y", "((var y_2 t) (assert y) (var y_1 t))"}, {"((var y t) (assert x) (set y_1 1))", "x y", "((var y_2 t) (assert y) (set y_1 1))"}, {"((case c (C (y) (assert x) (call (y_1) f))))", "x y", "((case c (C (y_2) (assert y) (call (y_1) f))))"},
		{"(pick (y 1 y_1) x 2)", "x y", "(pick (y_2 1 y_1) y 2)"}, {"(forall ((y t)) (trigger y_1) x)", "x y", "(forall ((y_2 t)) (trigger y_1) y)"},
		// Names outside of the binder are not avoided: of match and case it is the arm, of var the statement and all behind it.
		{"(and y_1 (let (y 1) x))", "x y", "(and y_1 (let (y_1 1) y))"}, {"(match y_1 (C (y_2) y_2) (D (y) (+ x y)))", "x y", "(match y_1 (C (y_2) y_2) (D (y_1) (+ y y_1)))"}, {"((case y_1 (C (y_2) (set y_2 1)) (D (y) (set y x))))", "x y", "((case y_1 (C (y_2) (set y_2 1)) (D (y_1) (set y_1 y))))"}, {"((assert y_1) (var y t) (assert x))", "x y", "((assert y_1) (var y_1 t) (assert y))"}, {"((block (var y t) (assert x)) (assert y_1))", "x y", "((block (var y_1 t) (assert y)) (assert y_1))"},
		{"((while y_1 ((invariant y_1)) (var y t) (assert x)))", "x y", "((while y_1 ((invariant y_1)) (var y_1 t) (assert y)))"},
		// Names that are no variables are not avoided.
		{"(let (y 1) (call y_1 (of y_1) x (get y_1 (is y_1 (old y_1 (fuel 1 y_1 (empty y_1)))))))", "x y", "(let (y_1 1) (call y_1 (of y_1) y (get y_1 (is y_1 (old y_1 (fuel 1 y_1 (empty y_1)))))))"}, {"((var y y_1) (assert x) (label y_1 (reveal y_1)))", "x y", "((var y_1 y_1) (assert y) (label y_1 (reveal y_1)))"}, {"(match 1 (y_1 (y) x))", "x y", "(match 1 (y_1 (y_1) y))"},
		// Names in what is put in, bound ones too.
		{"(let (y 1) x)", "x (+ y y_1)", "(let (y_2 1) (+ y y_1))"}, {"(let (y 1) x)", "x (let (y_1 y) 2)", "(let (y_2 1) (let (y_1 y) 2))"}, {"(let (y 1) (+ x z))", "x y z y_1", "(let (y_2 1) (+ y y_1))"}, {"(let (y 1) x)", "x (call y_1 y)", "(let (y_1 1) (call y_1 y))"},
		// Not in what is not: a pair whose name is not free there, or is the binder's.
		{"(let (y 1) x)", "x y z y_1", "(let (y_1 1) y)"}, {"(let (y z) x)", "x y z y_1", "(let (y_1 y_1) y)"}, {"(fn ((y t) (z t)) (and x z))", "x y z y_1", "(fn ((y_1 t) (z t)) (and y z))"}, {"(let (y 1) (+ x (let (z 2) z)))", "x y z y_1", "(let (y_1 1) (+ y (let (z 2) z)))"}, {"(let (y 1) x)", "x y w w", "(let (y_1 1) y)"},
		// The names that are replaced.
		{"(let (y 1) (+ x y_1))", "x y y_1 3", "(let (y_2 1) (+ y 3))"}, {"(let (y_1 1) y)", "y y_1", "(let (y_2 1) y_1)"},
		// The new names of the binders around it, where they are put in.
		{"(let (y 1) (let (y_3 2) (and x y y_3)))", "x (+ y y_3)", "(let (y_1 1) (let (y_2 2) (and (+ y y_3) y_1 y_2)))"}, {"(let (y 1) (and y (let (y_3 2) (and x y_3))))", "x (+ y y_3)", "(let (y_1 1) (and y_1 (let (y_1 2) (and (+ y y_3) y_1))))"},
		{"((var y t) (var y_5 t) (assert (and x y y_5)))", "x (+ y y_5)", "((var y_1 t) (var y_2 t) (assert (and (+ y y_5) y_1 y_2)))"},
		// Names of one binder one by one, from the front.
		{"(fn ((y t) (y_1 t)) (and x y y_1))", "x (+ y y_1)", "(fn ((y_2 t) (y_3 t)) (and (+ y y_1) y_2 y_3))"}, {"(fn ((y_1 t) (y t)) (and x y y_1))", "x (+ y y_1)", "(fn ((y_2 t) (y_3 t)) (and (+ y y_1) y_3 y_2))"}, {"(fn ((y t) (z t) (y_1 t)) (and x y z y_1))", "x (+ y z)", "(fn ((y_2 t) (z_1 t) (y_1 t)) (and (+ y z) y_2 z_1 y_1))"}, {"(match 1 (C (a b c) x))", "x (and c a)", "(match 1 (C (a_1 b c_1) (and c a)))"},
		// At most 20 bytes.
		{"(let (abcdefghijklmnopqrst 1) x)", "x abcdefghijklmnopqrst", "(let (abcdefghijklmnopqr_1 1) abcdefghijklmnopqrst)"},
	})
}

// P5.1, P5.2: what is wrong with pairs, and the order of the errors.
func TestReplaceErrors(t *testing.T) {
	x := form("x")
	for name, by := range map[string][]binder.Pair{
		"an empty name": {{Name: "", To: x}}, "a reserved name": {{Name: "if", To: x}}, "result": {{Name: "result", To: x}}, "true": {{Name: "true", To: x}}, "this": {{Name: "this", To: x}}, "a word that is no name": {{Name: "x'", To: x}}, "_": {{Name: "_", To: x}}, "digits": {{Name: "1", To: x}}, "a long name": {{Name: "abcdefghijklmnopqrstu", To: x}},
		"a name twice": {{Name: "x", To: x}, {Name: "y", To: x}, {Name: "x", To: x}}, "a pair twice": {{Name: "z", To: x}, {Name: "z", To: x}}, "one that stays, twice": {{Name: "x", To: x}, {Name: "x", To: x}},
		"a text": {{Name: "x", To: api.Form{Kind: api.Text, Text: "a"}}}, "a reserved word": {{Name: "x", To: word("if")}}, "a type": {{Name: "z", To: form("(fun (int) int)")}}, "statements": {{Name: "x", To: form("((leave))")}}, "no statements": {{Name: "x", To: list()}}, "a form of no kind": {{Name: "x", To: api.Form{Kind: 7}}}, "a deep form": {{Name: "x", To: nest(api.MaxDeep, "neg", x)}}, "no form": {{Name: "x", To: word("")}},
		"the last one": {{Name: "x", To: num(1)}, {Name: "y", To: num(2)}, {Name: "z", To: list()}},
	} {
		for _, f := range []string{"x", "7", "(let (x 1) y)", "()", "((set x 1))"} {
			if got := told(binder.Replace(form(f), by)); got != "error 1" {
				t.Errorf("Replace %s by %s: %s", f, name, got)
			}
		}
	}
	deep, wide := nest(api.MaxDeep-1, "neg", x), repeat("and", api.MaxForm-2, x)
	for _, c := range []struct {
		name string
		f    api.Form
		by   string
		want string
	}{
		{"ErrArg ahead of ErrType", form("((set x 1))"), "x 1 x 2", "error 1"}, {"ErrArg ahead of ErrLimit", deep, "x (neg y) y ()", "error 1"},
		{"ErrType ahead of ErrLimit", list(list(word("set"), x, nest(api.MaxDeep-3, "neg", word("y")))), "x 1 y (neg (neg y))", "error 8"},
		{"too deep", deep, "x (neg y)", "error 2"}, {"too many parts", wide, "x (neg y)", "error 2"}, {"many more parts", wide, "x (and a b c d e f g h i j k l m n o p)", "error 2"},
		{"too deep, and caught", nest(api.MaxDeep-3, "neg", form("(let (y 1) (neg x))")), "x (neg y)", "error 2"}, {"statements too deep", list(nest(api.MaxDeep-4, "ghost", form("(assert (neg x))"))), "x (neg (neg y))", "error 2"},
	} {
		if got := told(binder.Replace(c.f, pairs(c.by))); got != c.want {
			t.Errorf("%s: %.60s, want %s", c.name, got, c.want)
		}
	}
}

// P5.2: results that are just as deep, and have just as many parts, as forms may.
func TestReplaceAtLimits(t *testing.T) {
	x := form("x")
	for depth := api.MaxDeep - 2; depth <= api.MaxDeep; depth++ {
		got, err := binder.Replace(nest(depth-2, "neg", x), pairs("x (neg y)"))
		if err != api.OK || reader.Depth(got) != depth {
			t.Errorf("%d deep: error %d", depth, err)
		}
	}
	to := binder.Pair{Name: "x", To: repeat("and", 97, word("y"))}
	for times := 1; times <= api.MaxForm/99+1; times += 67 {
		got, err := binder.Replace(repeat("and", times, x), []binder.Pair{to})
		size := 2 + 99*times
		if fits := size <= api.MaxForm; fits && (err != api.OK || reader.Size(got) != size) || !fits && err != api.ErrLimit {
			t.Errorf("%d parts: error %d", size, err)
		}
	}
	for size := api.MaxForm - 4; size <= api.MaxForm; size++ {
		f := repeat("and", size-2, word("a"))
		f.Kids[5] = x
		got, err := binder.Replace(f, pairs("x (neg y)"))
		if fits := size+2 <= api.MaxForm; fits && (err != api.OK || reader.Size(got) != size+2) || !fits && err != api.ErrLimit {
			t.Errorf("two more than %d parts: error %d", size, err)
		}
	}
}

// R1: many vars, all of which get new names, and more parts put in than any
// form has.
func TestReplaceMuch(t *testing.T) {
	const many = 1200
	stmts, free := list(), repeat("and", 0, api.Form{})
	for i := range many {
		name := word("x_" + strconv.Itoa(i))
		stmts.Kids = append(stmts.Kids, list(word("var"), name, word("t")))
		free.Kids = append(free.Kids, name)
	}
	stmts.Kids = append(stmts.Kids, list(word("assert"), list(word("and"), free, word("y"))))
	got, err := binder.Replace(stmts, []binder.Pair{{Name: "y", To: free}})
	bound, _ := binder.Bound(got)
	known, _ := binder.Free(got)
	if err != api.OK || len(bound) != many || len(known) != many || slices.ContainsFunc(bound, func(name string) bool { return slices.Contains(known, name) }) {
		t.Errorf("many vars: error %d, %d bound", err, len(bound))
	}
	wide := repeat("and", api.MaxForm-2, word("x"))
	if got := told(binder.Replace(wide, []binder.Pair{{Name: "x", To: wide}})); got != "error 2" {
		t.Errorf("much put in: %.60s", got)
	}
}
