package binder_test

import (
	"slices"
	"testing"

	"plinth/api"
	"plinth/binder"
)

// A spoken form, and the names that are free, bound, and free and assigned in it.
type spoken struct {
	f, free, bound, assigned string
}

// exprs are expressions of each head.
var exprs = []spoken{
	// Words, of which five are no variables, though not all variables are names.
	{"x", "x", "", ""}, {"_", "_", "", ""}, {"x'", "x'", "", ""}, {"12a", "12a", "", ""}, {"-", "error 1", "error 1", "error 1"},
	{"true", "", "", ""}, {"false", "", "", ""}, {"null", "", "", ""}, {"this", "", "", ""}, {"result", "", "", ""}, {"7", "", "", ""},
	{"(and x true false null this result 7 y)", "x y", "", ""},
	// Ascending, each once.
	{"(+ (+ z a) (+ a (+ z m)))", "a m z", "", ""}, {"(and b B b_1 b1 _)", "B _ b b1 b_1", "", ""},
	// Heads that bind nothing: what is named in them is no variable, unless it stands as an expression.
	{"(+ a b)", "a b", "", ""}, {"(- a b)", "a b", "", ""}, {"(* a b)", "a b", "", ""}, {"(div a b)", "a b", "", ""}, {"(mod a b)", "a b", "", ""}, {"(neg a)", "a", "", ""}, {"(< a b)", "a b", "", ""}, {"(<= a b)", "a b", "", ""},
	{"(= a b)", "a b", "", ""}, {"(not a)", "a", "", ""}, {"(and)", "", "", ""}, {"(or)", "", "", ""}, {"(or a b c)", "a b c", "", ""}, {"(=> a b)", "a b", "", ""}, {"(iff a b)", "a b", "", ""}, {"(if a b c)", "a b c", "", ""},
	{"(app a)", "a", "", ""}, {"(app a b c)", "a b c", "", ""},
	{"(call f)", "", "", ""}, {"(call f a b)", "a b", "", ""}, {"(call f (of t (seq u)) a f)", "a f", "", ""}, {"(call f (of t))", "", "", ""},
	{"(make C)", "", "", ""}, {"(make C a b)", "a b", "", ""}, {"(make C (of t u) a C)", "C a", "", ""}, {"(is C a)", "a", "", ""}, {"(get g a)", "a", "", ""}, {"(get a a)", "a", "", ""},
	{"(bits 3 5)", "", "", ""}, {"(band a b)", "a b", "", ""}, {"(bor a b)", "a b", "", ""}, {"(bxor a b)", "a b", "", ""}, {"(badd a b)", "a b", "", ""}, {"(bnum a)", "a", "", ""},
	{"(seq)", "", "", ""}, {"(seq a b)", "a b", "", ""}, {"(set)", "", "", ""}, {"(set a b)", "a b", "", ""}, {"(set x 1)", "x", "", ""}, {"(bag a b)", "a b", "", ""}, {"(map)", "", "", ""}, {"(map (a b) (c d))", "a b c d", "", ""},
	{"(empty t)", "", "", ""}, {"(empty (seq t))", "", "", ""}, {"(imap a t)", "a", "", ""}, {"(imap a (seq u))", "a", "", ""},
	{"(len a)", "a", "", ""}, {"(at a b)", "a b", "", ""}, {"(cat a b)", "a b", "", ""}, {"(cut a b c)", "a b c", "", ""}, {"(put a b c)", "a b c", "", ""}, {"(in a b)", "a b", "", ""}, {"(join a b)", "a b", "", ""}, {"(meet a b)", "a b", "", ""}, {"(less a b)", "a b", "", ""},
	{"(card a)", "a", "", ""}, {"(count a b)", "a b", "", ""}, {"(look a b)", "a b", "", ""}, {"(keys a)", "a", "", ""},
	{"(old a)", "a", "", ""}, {"(old l a)", "a", "", ""}, {"(old a a)", "a", "", ""}, {"(fresh a)", "a", "", ""}, {"(fuel 2 f a)", "a", "", ""}, {"(fuel 2 a a)", "a", "", ""}, {"(prefix p a)", "a", "", ""}, {"(prefix p a b c)", "a b c", "", ""},
	// Binders, each with its names in the parts that it does not hold and in those that it does.
	{"(let (x a) (+ x b))", "a b", "x", ""}, {"(let (x x) x)", "x", "x", ""}, {"(let (x 1) y)", "y", "x", ""},
	{"(pick (x a b) c d)", "a b c d", "x", ""}, {"(pick (x x 0) 1 2)", "x", "x", ""}, {"(pick (x 0 x) 1 2)", "x", "x", ""}, {"(pick (x 0 9) x x)", "", "x", ""},
	{"(match a (C (x y) (+ x (+ y b))) (D () c))", "a b c", "x y", ""}, {"(match x (C (x) x))", "x", "x", ""}, {"(match 1 (C (x) 2) (D () x))", "x", "x", ""}, {"(match 1 (C (x) x) (D (y) x))", "x", "x y", ""}, {"(match 1 (C (x) x) (x (y) y))", "", "x y", ""},
	{"(fn () a)", "a", "", ""}, {"(fn ((x t) (y (seq u))) (+ x (+ y a)))", "a", "x y", ""}, {"(fn ((x x)) (empty x))", "", "x", ""},
	{"(forall ((x t)) x)", "", "x", ""}, {"(forall ((x t) (y u)) (trigger x a) (trigger y b) (+ x (+ y c)))", "a b c", "x y", ""}, {"(exists ((y t)) y)", "", "y", ""}, {"(exists ((x t)) (trigger x a) (trigger b) c)", "a b c", "x", ""},
	{"(all (x a b) (+ x c))", "a b c", "x", ""}, {"(all (x x x) x)", "x", "x", ""}, {"(some (x a b) (+ x c))", "a b c", "x", ""}, {"(some (x x 1) x)", "x", "x", ""},
	{"(every (x a) (+ x b))", "a b", "x", ""}, {"(every (x x) x)", "x", "x", ""}, {"(any (x a) (+ x b))", "a b", "x", ""}, {"(any (x x) x)", "x", "x", ""},
	// Binders in binders.
	{"(let (x 1) (let (y x) (+ x y)))", "", "x y", ""}, {"(let (x 1) (let (x x) x))", "", "x", ""}, {"(+ (let (x 1) x) x)", "x", "x", ""}, {"(let (x (let (y 1) y)) y)", "y", "x y", ""},
	{"(let (x y) (+ (let (y 1) (+ x y)) (+ x y)))", "y", "x y", ""}, {"(fn ((x t)) (fn ((y t)) (fn ((x t)) (+ x (+ y z)))))", "z", "x y", ""},
}

// stmts are lists of statements.
var stmts = []spoken{
	{"()", "", "", ""}, {"((leave))", "", "", ""}, {"((reveal f))", "", "", ""}, {"((assert a) (assume b) (expect c))", "a b c", "", ""},
	// Assigned words are uses, result among them. That result is read is none.
	{"((set x a))", "a x", "", "x"}, {"((set x x))", "x", "", "x"}, {"((set result result))", "result", "", "result"}, {"((set z 1) (set a result) (set z 2))", "a z", "", "a z"},
	{"((store a g b))", "a b", "", ""}, {"((new x C (g a) (h b)))", "a b x", "", "x"}, {"((new x C))", "x", "", "x"}, {"((new result x))", "result", "", "result"},
	{"((call (x y) f a b))", "a b x y", "", "x y"}, {"((call () f))", "", "", ""}, {"((call (result x) f f))", "f result x", "", "result x"}, {"((send (x y) a m b c))", "a b c x y", "", "x y"}, {"((send () a m))", "a", "", ""}, {"((send (result) m m))", "m result", "", "result"},
	{"((choose x a b (< x c)))", "a b c x", "", "x"}, {"((choose result 0 1 true))", "result", "", "result"}, {"((choose x 0 1 true) (assert x))", "x", "", "x"},
	// A var holds what is behind it in its list, and not its own E.
	{"((var x t))", "", "x", ""}, {"((var x t x))", "x", "x", ""}, {"((set x 1) (var x t) (set x 2))", "x", "x", "x"}, {"((var x t a) (set x b) (assert x))", "a b", "x", ""}, {"((var x t) (var y u x) (set y x) (call (x y z) f))", "z", "x y", "z"},
	{"((var x t) (var x t x) (set x x))", "", "x", ""}, {"((var t t) (new t t))", "", "t", ""},
	// Lists of their own: what is var there ends there.
	{"((ghost (var x t) (set x 1)) (set x 2))", "x", "x", "x"}, {"((block (var x t) (set x 1)) (set x 2))", "x", "x", "x"}, {"((label l (var x t) (set x 1)) (set x 2))", "x", "x", "x"}, {"((label x (set y 1)) (assert (old x y)))", "y", "", "y"},
	{"((if x ((var x t) (set x 1)) ((set x 2))))", "x", "x", "x"}, {"((if c ((set x 1)) ((var x t) (set x 2))) (set x 3))", "c x", "x", "x"}, {"((if c () ((var x t))) (set x 3))", "c x", "x", "x"},
	{"((while a ((invariant b) (decreases c d) (modifies e)) (var x t) (set x 1)) (set x 2))", "a b c d e x", "x", "x"}, {"((while x ((invariant x) (decreases) (modifies x)) (var x t) (set x 1)))", "x", "x", ""}, {"((while true ((decreases x)) (var x t)))", "x", "x", ""},
	{"((assert x (by (var x t) (set x 1))) (set x 2))", "x", "x", "x"}, {"((assert a (by)))", "a", "", ""},
	{"((calc a (= b (by (var x t) (set x 1))) (< c) (=> x (by (set y 2)))) (set x 2))", "a b c x y", "x", "x y"}, {"((calc a))", "a", "", ""},
	{"((case a (C (x y) (set x y) (set z b)) (D ())) (set x 1))", "a b x z", "x y", "x z"}, {"((case x (C (x) (var x t x) (set x 1)) (D (y) (set x y))))", "x", "x y", "x"}, {"((case a (C () (var x t)) (D () (set x 1))))", "a x", "x", "x"},
	{"((var x t) (ghost (set x 1)) (block (label l (if x ((set x 2)) ())) (while x ((invariant x)) (assert x (by (set x 3))))))", "", "x", ""},
	// Binders that hold no list.
	{"((each (x a b) (store c g (+ x d))))", "a b c d", "x", ""}, {"((each (x x x) (store x g x)) (set x 1))", "x", "x", "x"},
	{"((lemma (x a b) (requires (< x c)) f x d))", "a b c d", "x", ""}, {"((lemma (x x 1) (requires x) x x) (assert x))", "x", "x", ""},
	{"((assert (let (x 1) x)) (set x 1))", "x", "x", "x"},
}

// P5.2: Free, Bound and Assigned.
func TestNames(t *testing.T) {
	for _, c := range slices.Concat(exprs, stmts) {
		f := form(c.f)
		before := clone(f)
		if got := named(binder.Free(f)); got != c.free {
			t.Errorf("Free %s: %q, want %q", c.f, got, c.free)
		}
		if got := named(binder.Bound(f)); got != c.bound {
			t.Errorf("Bound %s: %q, want %q", c.f, got, c.bound)
		}
		if got := named(binder.Assigned(f)); got != c.assigned {
			t.Errorf("Assigned %s: %q, want %q", c.f, got, c.assigned)
		}
		if !identical(f, before) {
			t.Errorf("%s has been changed", c.f)
		}
	}
}

// P5.2: Count of names that are free, bound, both, and no variables at all.
func TestCount(t *testing.T) {
	for _, c := range []struct {
		f, x string
		want int
	}{
		{"x", "x", 1}, {"x", "y", 0}, {"x", "", 0}, {"x", "x ", 0}, {"_", "_", 1}, {"true", "true", 0}, {"(and this null false this)", "this", 0}, {"result", "result", 0}, {"(bits 3 5)", "5", 0},
		{"(+ x (+ y x))", "x", 2}, {"(let (x (+ x x)) (+ x x))", "x", 2}, {"(let (x 1) (+ x y))", "x", 0}, {"(let (x 1) (+ x y))", "y", 1}, {"(+ x (let (x x) (let (y x) (+ x y))))", "x", 2},
		{"(call x (of x) x (get x x) (is x x) (old x x) (fuel 1 x x) (prefix x x) (make x))", "x", 6}, {"(fn ((y x)) (empty x))", "x", 0}, {"(imap x x)", "x", 1},
		{"((set x (+ x x)))", "x", 3}, {"((call (x y) x x) (send (x) x x x) (choose x x x x) (new x x (x x)) (set x x))", "x", 13}, {"((set result result))", "result", 1}, {"((call (x result) f) (set result 1) (assert result))", "result", 2},
		{"((set x 1) (var x x x) (set x 1) (store x x x))", "x", 2}, {"((block (var x int) (set x 1)) (set x x))", "x", 2}, {"()", "x", 0}, {"((label x) (reveal x))", "x", 0}, {"((each (x x x) (store x x x)))", "x", 2},
	} {
		f := form(c.f)
		if got, err := binder.Count(f, c.x); err != api.OK || got != c.want {
			t.Errorf("Count %s in %s: %d, error %d, want %d", c.x, c.f, got, err, c.want)
		}
	}
}

// P5.1: what is neither an expression nor a list of statements is ErrArg, and
// there is no other result.
func TestNeither(t *testing.T) {
	x := word("x")
	for name, f := range neither() {
		for call, got := range map[string]string{
			"Free": named(binder.Free(f)), "Bound": named(binder.Bound(f)), "Assigned": named(binder.Assigned(f)), "Normal": told(binder.Normal(f)),
			"Replace": told(binder.Replace(f, nil)), "Replace by pairs": told(binder.Replace(f, pairs("x y"))),
		} {
			if got != "error 1" {
				t.Errorf("%s of %s: %s", call, name, got)
			}
		}
		free, _ := binder.Free(f)
		bound, _ := binder.Bound(f)
		assigned, _ := binder.Assigned(f)
		normal, _ := binder.Normal(f)
		replaced, _ := binder.Replace(f, pairs("x y"))
		if len(free)+len(bound)+len(assigned) > 0 || !identical(normal, api.Form{}) || !identical(replaced, api.Form{}) {
			t.Errorf("%s: a result beside the error", name)
		}
		if n, err := binder.Count(f, "x"); n != 0 || err != api.ErrArg {
			t.Errorf("Count of %s: %d, error %d", name, n, err)
		}
		for _, both := range [][2]api.Form{{f, x}, {x, f}, {f, f}, {list(), f}} {
			if alike, err := binder.Alike(both[0], both[1]); alike || err != api.ErrArg {
				t.Errorf("Alike of %s: %v, error %d", name, alike, err)
			}
		}
	}
}

// P5.2: the deepest and the greatest forms.
func TestGreatest(t *testing.T) {
	deep, wide := nest(api.MaxDeep-1, "neg", word("a")), repeat("and", api.MaxForm-2, word("a"))
	deepBinder, manyVars := nest(api.MaxDeep-3, "neg", form("(let (a b) a)")), list()
	for range api.MaxForm/4 - 1 {
		manyVars.Kids = append(manyVars.Kids, form("(var a t)"))
	}
	for name, c := range map[string]struct {
		f           api.Form
		free, bound string
		count       int
	}{
		"deepest": {deep, "a", "", 1}, "greatest": {wide, "a", "", api.MaxForm - 2}, "deepest binder": {deepBinder, "b", "a", 0}, "most vars": {manyVars, "", "a", 0},
		"deepest statement": {list(nest(api.MaxDeep-4, "ghost", form("(set a 1)"))), "a", "", 1},
	} {
		if got := named(binder.Free(c.f)); got != c.free {
			t.Errorf("Free of the %s: %q", name, got)
		}
		if got := named(binder.Bound(c.f)); got != c.bound {
			t.Errorf("Bound of the %s: %q", name, got)
		}
		if n, err := binder.Count(c.f, "a"); n != c.count || err != api.OK {
			t.Errorf("Count in the %s: %d, error %d", name, n, err)
		}
		if alike, err := binder.Alike(c.f, c.f); !alike || err != api.OK {
			t.Errorf("Alike of the %s: error %d", name, err)
		}
	}
}
