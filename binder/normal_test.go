package binder_test

import (
	"testing"

	"plinth/api"
	"plinth/binder"
)

// P5.2: Normal numbers bound names in the order in which they are bound.
func TestNormal(t *testing.T) {
	for _, c := range []struct{ f, want string }{
		{"x", "x"}, {"7", "7"}, {"(+ x (neg y))", "(+ x (neg y))"}, {"()", "()"}, {"((set x 1))", "((set x 1))"},
		{"(let (x 1) (+ x y))", "(let (v_0 1) (+ v_0 y))"}, {"(let (x x) x)", "(let (v_0 x) v_0)"}, {"(fn ((x t) (y t)) (+ y x))", "(fn ((v_0 t) (v_1 t)) (+ v_1 v_0))"}, {"(let (v_5 1) v_5)", "(let (v_0 1) v_0)"}, {"(fn ((v_1 t) (v_0 t)) (+ v_0 v_1))", "(fn ((v_0 t) (v_1 t)) (+ v_1 v_0))"},
		// A name that is not used has a number, and each binding its own.
		{"(let (x 1) (let (x 2) 3))", "(let (v_0 1) (let (v_1 2) 3))"}, {"(+ (let (x 1) x) (let (x 2) x))", "(+ (let (v_0 1) v_0) (let (v_1 2) v_1))"}, {"(let (x 1) (+ x (let (x x) x)))", "(let (v_0 1) (+ v_0 (let (v_1 v_0) v_1)))"},
		// A binder's names first, then those in its first parts, then those in what it holds.
		{"(let (x (let (y 1) y)) (let (z x) z))", "(let (v_0 (let (v_1 1) v_1)) (let (v_2 v_0) v_2))"}, {"(pick (x (let (a 1) a) (let (b 2) b)) (let (c x) c) (let (d x) d))", "(pick (v_0 (let (v_1 1) v_1) (let (v_2 2) v_2)) (let (v_3 v_0) v_3) (let (v_4 v_0) v_4))"}, {"(all (x (let (a 1) a) 2) (let (b x) b))", "(all (v_0 (let (v_1 1) v_1) 2) (let (v_2 v_0) v_2))"}, {"(every (x (let (a s) a)) (let (b x) b))", "(every (v_0 (let (v_1 s) v_1)) (let (v_2 v_0) v_2))"},
		{"(forall ((x t) (y t)) (trigger (let (a x) a)) (trigger (let (b y) b)) (let (c x) (+ c y)))", "(forall ((v_0 t) (v_1 t)) (trigger (let (v_2 v_0) v_2)) (trigger (let (v_3 v_1) v_3)) (let (v_4 v_0) (+ v_4 v_1)))"},
		// What is matched stands ahead of the arms, which are the binders.
		{"(match (let (a 1) a) (C (x y) (let (b x) (+ b y))) (D () 1) (E (x) x))", "(match (let (v_0 1) v_0) (C (v_1 v_2) (let (v_3 v_1) (+ v_3 v_2))) (D () 1) (E (v_4) v_4))"}, {"((case (let (a 1) a) (C (x) (var y t (let (b x) b)) (assert y)) (D (x) (assert x))))", "((case (let (v_0 1) v_0) (C (v_1) (var v_2 t (let (v_3 v_1) v_3)) (assert v_2)) (D (v_4) (assert v_4))))"},
		// A var when it is met, ahead of its own E.
		{"((var x t (let (a 1) a)) (assert (let (b x) b)) (var y t) (set y x))", "((var v_0 t (let (v_1 1) v_1)) (assert (let (v_2 v_0) v_2)) (var v_3 t) (set v_3 v_0))"}, {"((var x t) (set x 1) (var x t x) (set x 2))", "((var v_0 t) (set v_0 1) (var v_1 t v_0) (set v_1 2))"}, {"((block (var x t) (set x 1)) (set x 2) (var x t))", "((block (var v_0 t) (set v_0 1)) (set x 2) (var v_1 t))"},
		{"((while (let (a 1) a) ((decreases (let (b 2) b))) (var x t)) (each (y 0 1) (store y f y)) (lemma (z 0 1) (requires (let (c z) c)) f z))", "((while (let (v_0 1) v_0) ((decreases (let (v_1 2) v_1))) (var v_2 t)) (each (v_3 0 1) (store v_3 f v_3)) (lemma (v_4 0 1) (requires (let (v_5 v_4) v_5)) f v_4))"},
		{"((calc (let (a 1) a) (= (let (b 1) b) (by (var x t))) (= 1)) (if (let (c 1) c) ((var y t)) ((var z t))))", "((calc (let (v_0 1) v_0) (= (let (v_1 1) v_1) (by (var v_2 t))) (= 1)) (if (let (v_3 1) v_3) ((var v_4 t)) ((var v_5 t))))"},
		// Numbers whose names are free are passed over, wherever they are free, and assigned ones too.
		{"(let (x 1) (+ x v_0))", "(let (v_1 1) (+ v_1 v_0))"}, {"(+ (let (x 1) (let (y 2) (+ x y))) v_1)", "(+ (let (v_0 1) (let (v_2 2) (+ v_0 v_2))) v_1)"}, {"(and v_0 v_1 v_3 (fn ((a t) (b t) (c t)) (and a b c)))", "(and v_0 v_1 v_3 (fn ((v_2 t) (v_4 t) (v_5 t)) (and v_2 v_4 v_5)))"}, {"((var x t) (set v_0 x))", "((var v_1 t) (set v_0 v_1))"}, {"(+ v_00 (let (x 1) x))", "(+ v_00 (let (v_0 1) v_0))"},
		{"(let (v_0 v_0) v_0)", "(let (v_1 v_0) v_1)"}, {"(let (x 1) (let (v_0 2) (+ x v_0)))", "(let (v_0 1) (let (v_1 2) (+ v_0 v_1)))"},
		// Names that are no variables are not passed over, and stay.
		{"(let (x 1) (call v_0 (of v_0) (get v_0 (old v_0 x))))", "(let (v_0 1) (call v_0 (of v_0) (get v_0 (old v_0 v_0))))"}, {"(fn ((x x)) (call x (of x) (get x x)))", "(fn ((v_0 x)) (call x (of x) (get x v_0)))"}, {"((var x x) (label x (reveal x)) (assert (old x x)))", "((var v_0 x) (label x (reveal x)) (assert (old x v_0)))"},
	} {
		f := form(c.f)
		before := clone(f)
		if got := told(binder.Normal(f)); got != c.want {
			t.Errorf("Normal %s:\n got %s\nwant %s", c.f, got, c.want)
		}
		if !identical(f, before) {
			t.Errorf("Normal has changed %s", c.f)
		}
		if alike, err := binder.Alike(f, form(c.want)); !alike || err != api.OK {
			t.Errorf("%s is not alike its Normal: error %d", c.f, err)
		}
	}
}

// P5.2: forms are alike if they are equal but for bound names.
func TestAlike(t *testing.T) {
	for _, c := range []struct {
		a, b string
		want bool
	}{
		{"x", "x", true}, {"x", "y", false}, {"1", "1", true}, {"1", "2", false}, {"true", "true", true}, {"this", "null", false}, {"()", "()", true}, {"(+ x 1)", "(+ x 1)", true}, {"(+ x 1)", "(- x 1)", false}, {"(and x y)", "(and x)", false},
		{"(let (x 1) x)", "(let (y 1) y)", true}, {"(let (x 1) y)", "(let (z 1) y)", true}, {"(let (x 1) x)", "(let (y 2) y)", false}, {"(let (x 1) x)", "(let (y 1) x)", false}, {"(let (x 1) y)", "(let (y 1) y)", false}, {"(let (x x) x)", "(let (y x) y)", true}, {"(let (x x) x)", "(let (y y) y)", false},
		{"(fn ((x t) (y t)) (+ x y))", "(fn ((y t) (x t)) (+ y x))", true}, {"(fn ((x t) (y t)) (+ x y))", "(fn ((y t) (x t)) (+ x y))", false}, {"(fn ((x t)) (fn ((y t)) x))", "(fn ((x t)) (fn ((x t)) x))", false}, {"(fn ((x t)) (fn ((y t)) y))", "(fn ((x t)) (fn ((x t)) x))", true}, {"(let (x 1) (let (y 2) x))", "(let (y 1) (let (x 2) y))", true},
		{"(pick (x 0 1) x x)", "(pick (y 0 1) y y)", true}, {"(match e (C (x y) x))", "(match e (C (y x) y))", true}, {"(match e (C (x y) x))", "(match e (C (x y) y))", false}, {"(forall ((x t)) (trigger x) x)", "(forall ((y t)) (trigger y) y)", true}, {"(forall ((x t)) (trigger x) x)", "(exists ((x t)) (trigger x) x)", false}, {"(forall ((x t)) (trigger x) x)", "(forall ((x t)) x)", false}, {"(some (x 0 1) x)", "(some (y 0 1) y)", true}, {"(any (x s) x)", "(any (y s) y)", true},
		// Types, labels, CTORs, fields and functions are equal.
		{"(fn ((x t)) x)", "(fn ((x u)) x)", false}, {"(fn ((x x)) x)", "(fn ((y y)) y)", false}, {"(fn ((x t)) (empty x))", "(fn ((y t)) (empty y))", false}, {"(fn ((x t)) (empty x))", "(fn ((y t)) (empty x))", true}, {"(let (x 1) (old x x))", "(let (y 1) (old y y))", false}, {"(let (x 1) (old x x))", "(let (y 1) (old x y))", true}, {"(match e (C (x) x))", "(match e (D (x) x))", false}, {"(match e (x (x) x))", "(match e (y (y) y))", false},
		{"(let (x 1) (get x x))", "(let (y 1) (get y y))", false}, {"(let (x 1) (call x x))", "(let (y 1) (call y y))", false}, {"(let (x 1) (call x x))", "(let (y 1) (call x y))", true}, {"(let (f 1) (fuel 1 f f))", "(let (g 1) (fuel 1 g g))", false}, {"(let (p 1) (prefix p p))", "(let (q 1) (prefix q q))", false}, {"(let (x 1) (make x x))", "(let (y 1) (make x y))", true},
		// Statements.
		{"((var x t) (set x 1))", "((var y t) (set y 1))", true}, {"((var x t) (set x 1))", "((var y t) (set x 1))", false}, {"((var x t) (set y 1))", "((var y t) (set y 1))", false}, {"((var x t x))", "((var y t x))", true}, {"((var x t x))", "((var y t y))", false}, {"((var x t) (var x t x) (set x 1))", "((var x t) (var y t x) (set y 1))", true}, {"((var x t) (var x t x) (set x 1))", "((var x t) (var y t x) (set x 1))", false},
		{"((block (var x t)) (set x 1))", "((block (var y t)) (set x 1))", true}, {"((block (var x t)) (set x 1))", "((block (var y t)) (set y 1))", false}, {"((set x 1))", "((set y 1))", false}, {"((set result 1))", "((set result 1))", true}, {"((call (x) f))", "((call (y) f))", false}, {"((label l (leave)))", "((label m (leave)))", false}, {"((case e (C (x) (set z x))))", "((case e (C (y) (set z y))))", true},
		{"((each (x 0 1) (store x f x)))", "((each (y 0 1) (store y f y)))", true}, {"((each (x 0 1) (store x f x)))", "((each (y 0 1) (store y g y)))", false}, {"((lemma (x 0 1) (requires x) f x))", "((lemma (y 0 1) (requires y) f y))", true}, {"((lemma (x 0 1) (requires x) f x))", "((lemma (y 0 1) (requires y) g y))", false},
		// An expression and a list of statements.
		{"(and)", "()", false}, {"()", "x", false}, {"(set x 1)", "((set x 1))", false},
		// A bound name is alike no other word.
		{"(let (x 1) this)", "(let (x 1) x)", false}, {"(let (v_0 1) v_0)", "(let (x 1) v_0)", false}, {"(let (x 1) v_0)", "(let (v_1 1) v_0)", true},
	} {
		a, b := form(c.a), form(c.b)
		for range 2 {
			if got, err := binder.Alike(a, b); err != api.OK || got != c.want {
				t.Errorf("Alike %s and %s: %v, error %d", c.a, c.b, got, err)
			}
			a, b = b, a
		}
	}
}
