package scope_test

import (
	"strings"
	"testing"

	"plinth/api"
	"plinth/scope"
)

// calling declares something of each kind that calls nothing.
const calling = `(function f ((x int)) int) (ghost (predicate p () true)) (twostate w ()) (least le () true) (greatest gr () true) (method m () ()) (lemma lm () ()) (extern ex () ())
	(class A () (function k () int) (method n () ()) (field v int)) (trait B () (predicate k ()) (lemma n () () (body)) (field v bool)) (class D () (twostate k ()) (ghost (method n () ())) (field u int))
	(data E () (X) (Y (k int) (v int)) (Z (n int))) `

// P7.2: what is called, by what: Graph of what is put into the places of a
// declaration.
func TestGraph(t *testing.T) {
	if got := graph(scope.Graph(forms(calling))); got != "" {
		t.Errorf("Graph of nothing called: %s", got)
	}
	exprs := map[string]string{
		"1": "", "(call f 1)": "f", "(call p)": "p", "(call w)": "w", "(call le)": "le", "(call gr)": "gr", "(prefix le 1)": "le", "(prefix gr (call f 2))": "f gr", "(call f (call f (call p)))": "f p",
		"(fuel 2 f 1)": "", "(fuel 2 p (call w))": "w", "(get k 1)": "A.k B.k D.k", "(get n 1)": "", "(get v 1)": "", "(get u (get k 1))": "A.k B.k D.k", "(app 1 (call f 1))": "f", "(fn ((x int)) (call p))": "p",
		"(forall ((x int)) (trigger (call f x)) (call p))": "f p", "(let (f (call p)) (call w))": "p w", "(match (call p) (X () (call f 1)) (Y (f p) p))": "f p", "(old (call f 1))": "f", "(make X)": "", "(is X (call p))": "p", "(call f (of int) 1)": "f", "(map (1 (call f 1)) ((call p) 2))": "f p",
	}
	for e, want := range exprs {
		for from, decl := range map[string]string{
			"q": "(function q () int @)", "r": "(method r () () (body (assert @)))", "q.x": "(class q () (function x () int @))", "q.y": "(trait q () (ghost (method y () () (requires @))))", "s": "(sub s (x int) @ 1)", "t": "(sub t (x int) true @)",
		} {
			calledFrom(t, from, strings.Replace(decl, "@", e, 1), want)
		}
	}
	stmts := map[string]string{
		"(call () m)": "m", "(call () lm (call f 1))": "f lm", "(call () ex)": "ex", "(send () 1 n)": "A.n B.n D.n", "(send () 1 k)": "", "(send () 1 v)": "", "(lemma (x 1 2) (requires (call p)) lm)": "lm p", "(reveal f)": "",
		"(store (call p) v (call f 1))": "f p", "(each (x (call p) 1) (store 1 v (get k x)))": "A.k B.k D.k p", "(new r A (v (call p)))": "p", "(choose r (call f 1) (call p) (call w))": "f p w", "(assume (call p))": "p", "(expect (call p))": "p",
		"(ghost (call () m) (label l (call () ex)))": "ex m", "(while (call p) ((invariant (call f 1)) (decreases (call w))) (call () m))": "f m p w", "(assert (call p) (by (call () lm)))": "lm p", "(calc (call p) (= (call f 1) (by (call () m))))": "f m p",
		"(if (call p) ((call () m)) ((call () ex)))": "ex m p", "(case (call p) (X () (call () m)) (Y (f p)))": "m p", "(var x int (call f 1))": "f", "(var f int)": "",
	}
	for s, want := range stmts {
		for from, decl := range map[string]string{
			"q": "(method q () ((r int)) (body @))", "o": "(lemma o () ((r int)) (body @))", "q.x": "(class q () (method x () ((r int)) (body @)))", "i": "(function i () int (by (var r int) @) 1)",
		} {
			calledFrom(t, from, strings.Replace(decl, "@", s, 1), want)
		}
	}
	calledFrom(t, "q", "(function q () int (requires (call f 1)) (ensures (call p)) (reads (call w)) (decreases (call le)) (by (call () m)) (call gr))", "f gr le m p w")
	calledFrom(t, "q", "(method q () () (requires (call f 1)) (ensures (call p)) (modifies (call w)) (decreases (call le)))", "f le p w")
	calledFrom(t, "q", "(extern q () () (requires (call f 1)) (ensures (call p)) (modifies (call w)) (decreases (call le)))", "f le p w")
	calledFrom(t, "q", "(least q () (call q))", "q")
	calledFrom(t, "q", "(greatest q () (prefix q 1))", "q")
	calledFrom(t, "q.k", "(class q () (function k () int (get k this)))", "A.k B.k D.k q.k")
	calledFrom(t, "q.n", "(class q () (method n () () (body (send () this n))))", "A.n B.n D.n q.n")
}

// calledFrom fails unless a declaration calls just some names, all from one.
func calledFrom(t *testing.T, from, decl, want string) {
	t.Helper()
	var calls []string
	for _, to := range strings.Fields(want) {
		calls = append(calls, from+">"+to)
	}
	for _, p := range []string{calling + decl, decl + calling} {
		if got := graph(scope.Graph(forms(p))); got != strings.Join(calls, " ") {
			t.Errorf("Graph %s: %s, not %v", decl, got, calls)
		}
	}
	reached, err := scope.Reach(forms(calling+decl), from)
	if got := named(reached, err); got != want {
		t.Errorf("Reach %s of %s: %s, not %s", from, decl, got, want)
	}
}

// P7.2: Graph is ascending, by From and then To, each call once.
func TestGraphAscending(t *testing.T) {
	const p = `(method b () () (body (call () c) (call () a) (call () c))) (method a () () (body (call () b) (call () a))) (class b2 () (method z () () (body (send () 1 z) (call () b)))) (method c () ())
		(class B () (method z () ()) (method a () () (body (call () a)))) (method b3 () () (body (send () 1 z))) (sub B0 (x int) (call f) (call f)) (function f () bool)`
	if got, want := graph(scope.Graph(forms(p))), "B.a>a B0>f a>a a>b b>a b>c b2.z>B.z b2.z>b b2.z>b2.z b3>B.z b3>b2.z"; got != want {
		t.Errorf("Graph: %s, not %s", got, want)
	}
}

// P7.2: Components, Recursive, Reach.
func TestComponents(t *testing.T) {
	call := func(name string, calls ...string) string {
		s := "(function " + name + " () int (and"
		for _, to := range calls {
			s += " (call " + to + ")"
		}
		return s + "))"
	}
	for _, c := range []struct{ p, want, recursive string }{
		{"", "", ""},
		{call("f", "g") + call("g", "f") + call("h", "f"), "(f g) (h)", "f g"},
		{call("c") + call("a") + call("b"), "(a) (b) (c)", ""},
		{call("a", "c") + call("b") + call("c"), "(b) (c) (a)", ""},
		{call("a", "b") + call("b", "c") + call("c", "d") + call("d"), "(d) (c) (b) (a)", ""},
		{call("a", "a") + call("b", "a"), "(a) (b)", "a"},
		{call("a", "z") + call("b", "y") + call("y", "b", "c") + call("z") + call("c", "z"), "(z) (a) (c) (b y)", "b y"},
		{call("e", "b") + call("b", "d") + call("d", "e", "f") + call("f", "g") + call("g", "f") + call("a", "e"), "(f g) (b d e) (a)", "b d e f g"},
		{"(data D () (X)) (sub s (x int) (call f) 1) (class C () (field x int) (ghost (field y int)) (function f () int (get g this)) (function g () int (call f))) (trait T () (method m () () (body (send () this m))))" + call("f"), "(T.m) (f) (C.g) (C.f)", "T.m"},
		{"(class C () (method m () () (body (send () 1 n))) (method n () ())) (trait T () (lemma n () () (body (call () k)))) (lemma k () () (body (send () 1 m))) (extern x () ()) (least l () (prefix l 1)) (greatest r () true) (twostate w ()) (predicate p ())",
			"(C.n) (C.m T.n k) (l) (p) (r) (w) (x)", "C.m T.n k l"},
	} {
		p := forms(c.p)
		if got := parts(scope.Components(p)); got != c.want {
			t.Errorf("Components %s: %s, not %s", c.p, got, c.want)
		}
		for _, name := range strings.Fields(strings.NewReplacer("(", "", ")", "").Replace(c.want)) {
			want := strings.Contains(" "+c.recursive+" ", " "+name+" ")
			if got, err := scope.Recursive(p, name); err != api.OK || got != want {
				t.Errorf("Recursive %s of %s: %v, error %d", name, c.p, got, err)
			}
		}
	}
}

// P7.2: Reach and Recursive know callable names, members and subset types, and
// no others.
func TestReach(t *testing.T) {
	const p = `(function a () int (call b)) (function b () int (call c)) (predicate c () (call b)) (sub s (x int) (call a) (call d)) (sub s2 (x s) true 1) (lemma d () () (body (call () d2))) (extern d2 () ())
		(class C () (field x s) (method m () () (body (send () this m2))) (method m2 () ())) (trait T () (method m2 () () (requires (call d3)))) (function d3 () int) (data D () (X (y int)))`
	p2 := strings.Replace(p, "(call d)", "(call d3)", 1)
	for name, want := range map[string]string{
		"a": "b c", "b": "b c", "c": "b c", "d": "d2", "d2": "", "d3": "", "s": "a b c d3", "s2": "", "C.m": "C.m2 T.m2 d3", "C.m2": "", "T.m2": "d3",
		"C": "error 6", "T": "error 6", "D": "error 6", "X": "error 6", "C.x": "error 6", "D.y": "error 6", "nowhere": "error 6", "": "error 6", "m": "error 6", "C.m3": "error 6", "T.m": "error 6",
	} {
		if got := named(scope.Reach(forms(p2), name)); got != want {
			t.Errorf("Reach %s: %s, not %s", name, got, want)
		}
		wantErr := api.OK
		if want == "error 6" {
			wantErr = api.ErrName
		}
		is, err := scope.Recursive(forms(p2), name)
		if err != wantErr || is != (name == "b" || name == "c") {
			t.Errorf("Recursive %s: %v, error %d", name, is, err)
		}
	}
	refused(t, "an expression that calls a lemma", forms(p), "s", api.ErrName)
}

// P7.2: Uses are the declarations in which a name of any kind is used.
func TestUses(t *testing.T) {
	const p = `(data D (a E) (Nil) (Cons (hd E) (tl (D a E)))) (data E () (One (e nat))) (codata S () (More (next S))) (sub nat (n int) (call f n) (match 1 (One (x) x))) (sub two (n (seq nat)) true 1)
		(trait T () (field v int) (function k () int) (method n () ())) (class C (T) (field v (maybe T)) (field u E) (function k () int (get v this)) (method n () () (modifies this) (body (store this u 1))))
		(class B () (function v () int) (method k () ()) (method u () () (body (send () 1 u))))
		(function f ((x int)) int (call f x)) (function g (tp E) ((x E)) E (call f 1)) (predicate h () (fuel 1 g (is Nil 1))) (least l () (prefix l 1)) (greatest r () (call l))
		(method m () () (body (call () lm) (reveal h) (lemma (x 1 2) (requires x) lm) (send () 1 n) (send () 1 k)))
		(lemma lm () () (body (case 1 (Nil ()) (Cons (a b))) (var y C) (new y C (v 1)) (send () y v))) (extern ex () ((r (fun (C) int))))
		(method q () () (requires (make One (get k 1))) (ensures (fn ((x (seq T))) (imap 1 nat))) (body (var D (D int nat)) (call () q) (call () ex) (set D (empty (set E)))))
		(method w () () (body (assert (get u (get hd 1))) (each (x 1 2) (store x v (make Cons (of two) 1 2)))))`
	isLet(t, "a program", forms(p))
	for name, want := range map[string]string{
		"D": "D q", "E": "C q", "S": "S", "nat": "E q two", "two": "w", "T": "C q", "C": "ex lm", "B": "",
		"Nil": "h lm", "Cons": "lm w", "One": "nat q", "More": "",
		"f": "f g nat", "g": "h", "h": "m", "l": "l r", "r": "", "m": "", "lm": "m", "ex": "q", "q": "q", "w": "",
		"T.v": "C lm w", "C.v": "C lm w", "B.v": "C", "T.k": "q", "C.k": "q", "B.k": "m", "T.n": "m", "C.n": "m", "C.u": "B C w", "B.u": "B",
		"hd": "error 6", "D.hd": "error 6", "v": "error 6", "a": "error 6", "n": "error 6", "int": "error 6", "nowhere": "error 6", "": "error 6", "C.w": "error 6", "B.n": "error 6", "f.x": "error 6", "E.One": "error 6", ".v": "error 6",
	} {
		if got := named(scope.Uses(forms(p), name)); got != want {
			t.Errorf("Uses %s: %s, not %s", name, got, want)
		}
	}
}
