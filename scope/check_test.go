package scope_test

import (
	"strconv"
	"strings"
	"testing"

	"plinth/api"
	"plinth/reader"
	"plinth/scope"
)

// world declares something of each kind.
const world = `(data D (a) (Nil) (Cons (hd a) (tl (D a)))) (data E () (One) (Two (hd int) (rest E)))
	(codata S () (More (hd int) (next S))) (sub nat (n int) (<= 0 n) 0)
	(trait U () (field ux int) (function uf () int) (ghost (field ug int)))
	(trait T (U) (field tx int) (function tf () int) (method tm () ()))
	(class C (T) (field x int) (ghost (field gx int)) (function cf () int 1) (predicate cp () true) (twostate ct () true) (method cm ((i int)) ((r int))) (lemma cl () ()))
	(class B () (field bx int))
	(function f ((x int)) int x) (function ga (tp a) ((x a)) a x) (ghost (function gf () int 1)) (predicate p ((x int)) true) (twostate ts () true)
	(least le ((x int)) true) (greatest gr ((x int)) false)
	(method m ((x int)) ((y int))) (ghost (method gm () ())) (lemma lm ((x int)) ()) (extern ex () ()) `

// A place is a declaration with the word @, in whose stead something is put.
type place struct {
	put  string
	want api.Errno
}

// asked puts all of some places into a declaration q, and holds what Check tells
// of the program against them.
func asked(t *testing.T, around string, places []place) {
	t.Helper()
	isLet(t, "the world", forms(world))
	for _, c := range places {
		decl := strings.ReplaceAll(around, "@", c.put)
		name := "q"
		if c.want == api.OK {
			name = ""
		}
		p := forms(world + decl)
		before := cloned(p)
		if got, err := scope.Check(p); err != c.want || got != name {
			t.Errorf("Check %s: error %d at %q, not %d", decl, err, got, c.want)
		}
		if !identical(list(p...), list(before...)) {
			t.Errorf("Check has changed %s", decl)
		}
	}
}

// all are places of which one thing is told.
func all(want api.Errno, puts ...string) []place {
	var places []place
	for _, put := range puts {
		places = append(places, place{put, want})
	}
	return places
}

// P7.1: names in expressions.
func TestNamesInExpressions(t *testing.T) {
	const around = "(class q () (method w ((i int) (c C) (d E) (g int)) ((r int)) (requires @)) (field qx int))"
	asked(t, around, all(api.OK,
		"1", "true", "false", "null", "this", "i", "(+ i 1)", "(and)", "(bits 3 9)",
		"(call f i)", "(call gf)", "(call p 1)", "(call ts)", "(call le 1)", "(call gr 1)", "(call ga (of (D int)) i)", "(call f)",
		"(make Cons 1 (make Nil))", "(make Cons (of int nat) 1 c)", "(is Two d)", "(is More d)", "(make More 1 2)",
		"(get hd d)", "(get next d)", "(get bx c)", "(get gx c)", "(get uf c)", "(get cm c)", "(get cl c)", "(get qx this)", "(get w this)",
		"(match d (One () 1) (Two (a b) (+ a b)))", "(match d (Two (a) i))", "(match d (Two (i) i))", "(match d (More (x y) x))",
		"(let (x i) (+ x i))", "(let (i i) i)", "(pick (x i i) (< x i) x)", "(fn ((x int) (y nat)) (+ x (+ y i)))", "(fn () i)", "(app c i)",
		"(all (x i i) (< x i))", "(some (x i i) (< x i))", "(every (x c) (= x i))", "(any (x c) (= x i))",
		"(forall ((x int) (y C)) (trigger x (get x y)) (trigger i) (= x i))", "(exists ((x (maybe T))) (= x c))",
		"(seq i 1)", "(map (i 1) (2 i))", "(empty (set nat))", "(imap i (maybe C))", "(old i)", "(fresh c)",
		"(fuel 2 f i)", "(fuel 2 p i)", "(fuel 2 ga i)", "(prefix le i 1)", "(prefix gr 1 i)",
		"(let (x 1) (let (y x) (let (x y) (+ x y))))",
	))
	asked(t, around, all(api.ErrName,
		"x", "result", "r", "f", "C", "One", "nat", "_", "x'", "+1", "w", "qx", "(+ i x)", "(= 1 (neg x))", "(and i x)",
		"(call g)", "(call m 1)", "(call lm 1)", "(call ex)", "(call C)", "(call One)", "(call uf)", "(call cf)", "(call w)", "(call nowhere)", "(call nat)", "(call i)", "(call f x)", "(call f (of x) i)",
		"(make E)", "(make f)", "(make nowhere)", "(make One x)", "(make Nil (of x))", "(is E d)", "(is x d)", "(is One x)",
		"(get nowhere c)", "(get C c)", "(get f c)", "(get n c)", "(get i c)", "(get x x)",
		"(match x (One () 1))", "(match d (E () 1))", "(match d (nowhere () 1))", "(match d (One () x))", "(match d (Two (a b) c) (One () a))",
		"(match d (One () 1) (Nil () 1))", "(match d (Nil () 1) (Cons (a b) a) (One () 1))", "(match d (Two (a b) 1) (More (a b) 1))", "(match d (One () 1) (nowhere () 1))",
		"(let (x x) 1)", "(let (x 1) y)", "(+ (let (x 1) x) x)", "(pick (x x 1) true 1)", "(pick (x 1 x) true 1)", "(pick (x 1 2) y x)", "(pick (x 1 2) true y)",
		"(fn ((x y)) x)", "(fn ((x int)) y)", "(+ (fn ((x int)) x) x)", "(app x)", "(app i x)",
		"(all (x x 1) true)", "(all (x 1 x) true)", "(all (x 1 2) y)", "(some (x x 1) true)", "(every (x x) true)", "(any (x c) y)",
		"(forall ((x y)) true)", "(forall ((x int)) (trigger y) true)", "(exists ((x int)) (trigger x) y)",
		"(set i x)", "(map (i x))", "(map (x i))", "(empty (set y))", "(imap x int)", "(imap i y)", "(old x)", "(fresh x)", "(old i i)", "(old l x)",
		"(fuel 2 gr i)", "(fuel 2 ts i)", "(fuel 2 le i)", "(fuel 2 m i)", "(fuel 2 nowhere i)", "(fuel 2 f x)",
		"(prefix f 1)", "(prefix p 1)", "(prefix nowhere 1)", "(prefix le x)", "(prefix le 1 x)",
	))
	asked(t, around, []place{
		{"(match d (One () 1) (One () 1))", api.ErrDup},
		{"(match d (Two (a b) 1) (One () 1) (Two (a b) x))", api.ErrDup},
		{"(match d (Two (a b) x) (Two (a b) 1))", api.ErrName},
		{"(match d (Nil () 1) (One () 1) (Nil () 1))", api.ErrName},
		{"(match d (One () 1) (One () 1) (Nil () 1))", api.ErrDup},
	})
}

// P7.1: types are asked by layer 3, with the types of the program.
func TestTypes(t *testing.T) {
	places := append(all(api.OK,
		"int", "bool", "(bits 16)", "(seq (bits 1))", "nat", "C", "T", "E", "S", "(D int)", "(D (D nat))", "(maybe C)", "(maybe T)", "(fun (C int) (D T))",
		"(set nat)", "(set (D int))", "(set C)", "(set E)", "(map E S)", "(imap nat S)", "(bag (maybe U))", "(set (D (maybe C)))",
	), all(api.ErrName, "x", "f", "One", "(x int)", "(seq x)", "(fun (x) int)", "(D x)", "(maybe x)", "true", "-", "m", "le")...)
	places = append(places, all(api.ErrType,
		"(bits 0)", "(bits 17)", "D", "(D int int)", "(C int)", "(E int)", "(nat int)", "(maybe E)", "(maybe nat)", "(maybe int)",
		"(set S)", "(set (D S))", "(bag (fun () int))", "(map (imap int int) int)", "(set (D (fun () int)))", "(imap S int)",
		"(seq)", "(seq 3)", "(fun int int)", "()", "(seq int int)", "(\"D\" int)", "(maybe (D int))", "(bits x)", "(set ())",
	)...)
	for _, around := range []string{
		"(data q () (Q (q1 int) (q2 @)))", "(codata q () (Q) (R (q2 @)))", "(sub q (n @) true 1)",
		"(class q () (field qx @))", "(trait q () (ghost (field qx @)))", "(class q () (method w ((i @)) ()))", "(class q () (function w () @))", "(trait q () (predicate w ((i @))))",
		"(function q ((i @)) int)", "(function q () @)", "(function q (tp a b) ((i a)) @ 1)", "(predicate q (tp a) ((x a) (i @)))", "(ghost (predicate q ((i @))))", "(twostate q ((i @)))", "(least q ((i @)) true)", "(greatest q ((i @)) true)",
		"(method q ((i @)) ())", "(method q () ((i @)))", "(lemma q ((i @)) ())", "(extern q () ((i @)))", "(ghost (method q ((i @)) ()))",
		"(function q () int (fn ((x @)) 1))", "(function q () int (forall ((x @)) true))", "(function q () int (exists ((x int) (y @)) (trigger x) true))",
		"(function q () int (call ga (of @) 1))", "(function q () int (make Nil (of int @)))", "(function q () int (empty @))", "(function q () int (imap 1 @))",
		"(method q () () (body (var x @)))", "(method q () () (body (var x @ 1)))", "(method q () () (body (ghost (block (var x @)))))",
	} {
		asked(t, around, places)
	}
	asked(t, "(function q @)", all(api.OK,
		"(tp a) ((x a)) (D a) (make Cons (of a) x (make Nil (of (seq a))))", "(tp D) ((x D)) (seq D)", "(tp a) () int (fn ((x a)) 1)", "(tp a b) ((x (map int a))) (imap int b)"))
	asked(t, "(function q @)", []place{
		{"(tp a) ((x (set a))) int", api.ErrType}, {"(tp a) ((x b)) int", api.ErrName}, {"(tp D) ((x (D int))) int", api.ErrType}, {"(tp a) ((x (a int))) int", api.ErrType},
		{"(tp a) ((x int)) int (requires (= x (empty (bag a))))", api.ErrType}, {"(tp a) () int (empty (set b))", api.ErrName}, {"(tp a) () int a", api.ErrName},
		{"(tp C) ((x (maybe C))) int", api.ErrType}, {"() int (empty (seq a))", api.ErrName},
	})
	asked(t, "(data q @)", all(api.OK,
		"(a) (Q (x a) (y (D a)))", "(a b) (eq b) (Q (x (set b)) (y (seq a)))", "(a b) (eq a b) (Q (x (map (D a) (set b))))", "(a) (eq a) (Q (x (set (q a))))", "(a b c d) (Q (x (q d c b a)))", "() (Q (x q)) (R (x bool))",
		"(D) (Q (x D) (y (q D)))", "(q) (Q (x q))"))
	asked(t, "(data q @)", []place{
		{"(a) (Q (x (set a)))", api.ErrType}, {"(a b) (eq a) (Q (x (set a)) (y (set b)))", api.ErrType}, {"(a) (Q (x b))", api.ErrName}, {"(a) (Q (x (q a a)))", api.ErrType}, {"(a) (Q (x q))", api.ErrType},
		{"(a b c d e) (Q)", api.ErrType}, {"(a b c d e) (Q (x nowhere))", api.ErrType}, {"(a) (eq a) (Q (x (set (q (fun () a)))))", api.ErrType}, {"(D) (Q (x (D int)))", api.ErrType},
	})
	refused(t, "a type variable outside of its data", forms("(data q (a) (Q (x a))) (function r () a)"), "r", api.ErrName)
	refused(t, "a type variable outside of its function", forms("(function q (tp a) ((x a)) int) (function r ((x a)) int)"), "r", api.ErrName)
	refused(t, "data with too many variables, used ahead", forms("(function f ((x (q int int int int int))) int) (data q (a b c d e) (Q))"), "f", api.ErrName)
	refused(t, "data with too many variables", forms("(data q (a b c d e) (Q)) (function f ((x (q int int int int int))) int)"), "q", api.ErrType)
}

// P7.1: subset types can be compared as their bases can.
func TestSetsOfSubs(t *testing.T) {
	for _, c := range []struct {
		subs string
		want api.Errno
	}{
		{"(sub s (n int) true 1)", api.OK}, {"(sub s (n v) true 1) (sub v (n (seq u)) true 1) (sub u (n bool) true 1)", api.OK},
		{"(sub s (n (D v)) true 1) (sub v (n (maybe C)) true 1)", api.OK}, {"(sub s (n C) true 1)", api.OK},
		{"(sub s (n S) true 1)", api.ErrType}, {"(sub s (n (D v)) true 1) (sub v (n (fun () int)) true 1)", api.ErrType}, {"(sub s (n v) true 1) (sub v (n (imap int int)) true 1)", api.ErrType},
		{"(sub s (n s) true 1)", api.ErrType}, {"(sub s (n (seq v)) true 1) (sub v (n (D s)) true 1)", api.ErrType}, {"(sub s (n v) true 1) (sub v (n u) true 1) (sub u (n v) true 1)", api.ErrType},
	} {
		p := forms(world + c.subs + " (function q ((x (set s))) int)")
		name := "q"
		if c.want == api.OK {
			name = ""
		}
		if got, err := scope.Check(p); err != c.want || got != name {
			t.Errorf("Check of a set of %s: error %d at %q", c.subs, err, got)
		}
	}
}

// P7.1: what is let in the clauses and the expression of functions.
func TestFunctions(t *testing.T) {
	asked(t, "(function q ((x int) (y int)) int @)", all(api.OK,
		"", "x", "(requires (< x y)) (ensures (< x result)) (reads x) (decreases x y) (opaque) (fuel 3) y", "(ensures (let (y result) (forall ((x int)) (= y (+ x result)))))",
		"(ensures (call q x result)) (ensures result)", "(fuel 3) (fuel 3 q x)", "(fuel 3)", "(by (set result x)) 1", "(by (var v int x) (set v (+ v x)) (set result v) (label l (set result (old l x)))) x",
		"(by (call (result) m x) (send (result) x cm y) (new result C) (choose result 0 x true)) 1", "(by (while true ((invariant (< x y))) (set result 1))) 1",
	))
	asked(t, "(function q ((x int) (y int)) int @)", all(api.ErrName,
		"z", "result", "this", "(requires result)", "(requires z)", "(requires this)", "(ensures z)", "(ensures this)", "(reads result)", "(reads z)", "(reads x z)", "(decreases result)", "(decreases x z)", "(fuel 3 q result)", "(fuel 3 q z)",
		"(by (set x 1)) 1", "(by (set z 1)) 1", "(by (set result result)) 1", "(by (assert result)) 1", "(by (set result 1) (var v int result)) 1", "(by (set result z)) 1", "(by) z", "(by (var v int)) v", "(by (label l)) (old l x)",
		"(requires (old q x))", "(by (choose x 0 1 true)) 1", "(ensures (fuel 3 q result)) result",
	))
	for _, head := range []string{"predicate", "twostate"} {
		asked(t, "("+head+" q ((x int)) @)", all(api.OK, "", "x", "(ensures result)", "(ensures (call q result)) (requires x) x", "(by (set result true)) x"))
		asked(t, "("+head+" q ((x int)) @)", all(api.ErrName, "result", "z", "(requires result)", "(decreases result)", "(by (assert result)) x", "(reads this)"))
	}
	for _, head := range []string{"least", "greatest"} {
		asked(t, "("+head+" q ((x int)) @)", []place{{"x", api.OK}, {"(call q x)", api.OK}, {"(prefix q 1 x)", api.OK}, {"y", api.ErrName}, {"result", api.ErrName}, {"this", api.ErrName}})
	}
	asked(t, "(sub q (n int) @ 1)", []place{{"(< n 1)", api.OK}, {"(call f n)", api.OK}, {"x", api.ErrName}, {"q", api.ErrName}, {"this", api.ErrName}, {"result", api.ErrName}})
	asked(t, "(sub q (n int) true @)", []place{{"(call f 1)", api.OK}, {"n", api.OK}, {"x", api.ErrName}, {"(old l 1)", api.ErrName}})
	asked(t, "(class q () (field a int) (function w ((x int)) int @))", []place{{"(ensures (= result this)) (by (set result this)) (+ x (get w this))", api.OK}, {"(requires result)", api.ErrName}, {"a", api.ErrName}, {"w", api.ErrName}, {"result", api.ErrName}})
	asked(t, "(trait q () (ghost (predicate w ((x int)) @)))", []place{{"(ensures (= result this)) this", api.OK}, {"y", api.ErrName}})
}

// P7.1: what is let in the clauses and the body of methods, and their like.
func TestMethods(t *testing.T) {
	for _, around := range []string{"(method q ((x int)) ((r int)) @)", "(ghost (method q ((x int)) ((r int)) @))", "(lemma q ((x int)) ((r int)) @)", "(class q () (method w ((x int)) ((r int)) @))", "(trait q () (lemma w ((x int)) ((r int)) @))"} {
		asked(t, around, all(api.OK,
			"", "(requires (< x 1)) (ensures (< x r)) (modifies x) (decreases x) (ensures r) (body)", "(body (set r x) (set r (+ r 1)))", "(ensures (let (r r) r))", "(body (label l) (assert (old l r)))", "(modifies) (decreases)"))
		asked(t, around, all(api.ErrName,
			"(requires r)", "(modifies r)", "(decreases r)", "(decreases x r)", "(ensures result)", "(ensures y)", "(requires y)", "(modifies x y)", "(body (set x 1))", "(body (set r result))", "(body (set r y))", "(ensures (old l r))", "(requires (old l x)) (body (label l))"))
	}
	asked(t, "(extern q ((x int)) ((r int)) @)", []place{{"(requires x) (ensures r) (modifies x) (decreases)", api.OK}, {"", api.OK}, {"(body)", api.ErrName}, {"(body (var y (set S)))", api.ErrName}, {"(decreases (empty (set S))) (body)", api.ErrType}, {"(requires r)", api.ErrName}, {"(ensures y)", api.ErrName}})
	asked(t, "(method q ((x int)) () (body @))", []place{{"(assert this)", api.ErrName}, {"(assert result)", api.ErrName}})
	asked(t, "(class q () (method w ((x int)) () (requires this) (ensures this) (modifies this) (decreases this) (body @)))", all(api.OK, "(assert this)", "(send () this w this)"))
}

// P7.1: names in statements.
func TestNamesInStatements(t *testing.T) {
	const around = "(method q ((i int) (c C)) ((r int) (s C)) (body (var v int) @ (set v 1)))"
	asked(t, around, all(api.OK,
		"(var w int) (set w 1)", "(var w int v)", "(var i int i) (set i 1)", "(var w C c) (var w int) (set w 2)", "(var v C) (set v 1)", "(set v i)", "(set r v)",
		"(store c x 1)", "(store c gx 1)", "(store c bx i)", "(store c tf 1)", "(store c cm i)", "(send () c x)", "(send () c cf)", "(send (v r) c cm i)", "(send () c tm)", "(send () c ux)",
		"(new s C)", "(new s C (x 1) (gx i) (tx v) (ux 1) (ug 2))", "(new s C (x 1) (x 1))", "(new v B (bx r))",
		"(call (r) m i)", "(call (v r) gm)", "(call () lm i)", "(call () ex)", "(call () q i c)", "(choose v 0 i (< v i))", "(choose r v v v)",
		"(if i ((var w int) (set w 1)) ((set v 1)))", "(while i ((invariant v) (decreases v r) (modifies c)) (var w int) (set w v))",
		"(case c (One () (set v 1)) (Two (a b) (set v a) (var a int) (set a b)))", "(case c (Two ()))", "(case c (More (a b)))",
		"(assert v)", "(assert v (by (var w int) (set w v)))", "(assume v)", "(expect v)", "(leave)", "(label l)", "(label l (set v 1))",
		"(each (x i v) (store x bx (+ x i)))", "(lemma (x i v) (requires (< x i)) lm x)", "(lemma (i i i) (requires i) lm i)", "(calc v (= i (by (var w int) (set w 1))) (<= r))", "(calc v)",
		"(reveal f)", "(reveal p)", "(reveal gf)", "(ghost (var w int) (set w 1))", "(block (var w int) (set w 1))", "(ghost)",
	))
	asked(t, around, all(api.ErrName,
		"(var w int w)", "(var w x)", "(var w int x)", "(set x 1)", "(set i 1)", "(set c 1)", "(set v x)", "(set x x)", "(set q 1)",
		"(store c nowhere 1)", "(store c hd 1)", "(store c next 1)", "(store x x 1)", "(store c x y)", "(send () c nowhere)", "(send () c hd)", "(send (i) c cm)", "(send (x) c cm)", "(send (v i) c cm)", "(send () x cm)", "(send () c cm x)", "(send () c m)",
		"(new s T)", "(new s E)", "(new s nowhere)", "(new s s)", "(new c C)", "(new x C)", "(new s C (nowhere 1))", "(new s C (bx 1))", "(new s C (cf 1))", "(new s C (cm 1))", "(new s C (tf 1))", "(new s C (hd 1))", "(new s C (x x))",
		"(call (i) m)", "(call (x) m)", "(call (v c) m)", "(call () f)", "(call () p)", "(call () le)", "(call () cm)", "(call () nowhere)", "(call () v)", "(call () m x)",
		"(choose i 0 1 true)", "(choose x 0 1 true)", "(choose v x 1 true)", "(choose v 0 x true)", "(choose v 0 1 x)",
		"(if x () ())", "(if v ((var w int)) ((set w 1)))", "(if v ((var w int)) ()) (set w 1)", "(if v () ((set x 1)))",
		"(while x ())", "(while v ((invariant x)))", "(while v ((decreases v x)))", "(while v ((modifies x)))", "(while v ((invariant w)) (var w int))", "(while v () (var w int)) (set w 1)", "(while v () (set i 1))",
		"(case x (One ()))", "(case c (nowhere ()))", "(case c (E ()))", "(case c (One ()) (Nil ()))", "(case c (Two (a b) (set a 1)))", "(case c (Two (v b) (set v 1)))", "(case c (Two (a b)) (One () (set v a)))", "(case c (One () (var w int)) (Two () (set w 1)))", "(case c (Two (a b))) (set v a)",
		"(assert x)", "(assert v (by (set x 1)))", "(assert v (by (var w int))) (set w 1)", "(assume x)", "(expect x)",
		"(each (x x 1) (store c x x))", "(each (x 1 x) (store c x x))", "(each (x 1 2) (store y x x))", "(each (x 1 2) (store c nowhere x))", "(each (x 1 2) (store c x y))", "(each (x 1 2) (store c x x)) (set v x)",
		"(lemma (x x 1) (requires x) lm x)", "(lemma (x 1 x) (requires x) lm x)", "(lemma (x 1 2) (requires y) lm x)", "(lemma (x 1 2) (requires x) lm y)", "(lemma (x 1 2) (requires x) m x)", "(lemma (x 1 2) (requires x) f x)", "(lemma (x 1 2) (requires x) nowhere x)", "(lemma (x 1 2) (requires x) cl x)", "(lemma (x 1 2) (requires x) lm x) (set v x)",
		"(calc x)", "(calc v (= x))", "(calc v (= i (by (set x 1))))", "(calc v (= i (by (var w int))) (= w))",
		"(reveal m)", "(reveal le)", "(reveal gr)", "(reveal ts)", "(reveal lm)", "(reveal nowhere)", "(reveal cf)", "(reveal v)",
		"(ghost (var w int)) (set w 1)", "(block (var w int)) (set w 1)", "(block (set x 1))", "(label l (var w int)) (set w 1)", "(label l (set x 1))",
	))
	asked(t, around, []place{
		{"(case c (One ()) (One ()))", api.ErrDup}, {"(case c (Two (a b) (set x 1)) (Two (a b)))", api.ErrName}, {"(case c (Two (a b)) (One ()) (Two (a b) (set x 1)))", api.ErrDup}, {"(case c (Nil ()) (Cons (a b)) (Nil ()) (One ()))", api.ErrDup},
	})
}

// P7.1: labels are in sight in their statements and behind them in their list,
// and each one is there once in a body.
func TestLabels(t *testing.T) {
	for _, around := range []string{"(method q () ((r int)) (body (set r 1) @ (set r 2)))", "(function q () int (by @ (set result 1)) 1)", "(class q () (lemma w () () (body @)))", "(method q () () (body (assert true (by @))))"} {
		asked(t, around, all(api.OK,
			"(label l (assert (old l 1)))", "(label l) (assert (old l 1))", "(label l (block (if (old l true) ((assert (old l 1))) ())))", "(label l) (while (old l true) ((invariant (old l true))) (assert (old l 1)))",
			"(label l (label k (assert (old l (old k 1)))) (assert (old k 1))) (assert (old l 1))", "(if true ((label l)) ((label k)))", "(assert true (by (label l) (assert (old l 1))))", "(var l int) (label l) (assert (old l l))", "(label q)",
			"(label l) (calc (old l 1) (= (old l 1) (by (assert (old l 1)))))", "(label l) (assert (fn ((l int)) (old l l)))"))
		asked(t, around, all(api.ErrName,
			"(assert (old l 1)) (label l)", "(block (label l)) (assert (old l 1))", "(label l (label k)) (assert (old k 1))", "(if true ((label l)) ((assert (old l 1))))", "(if (old l true) ((label l)) ())", "(while true ((invariant (old l true))) (label l))",
			"(while (old l true) () (label l))", "(assert true (by (label l))) (assert (old l 1))", "(assert (old l true) (by (label l)))", "(case 1 (One () (label l)) (Two () (assert (old l 1))))", "(ghost (label l)) (assert (old l 1))", "(var l int) (assert (old l 1))",
			"(label l (assert (old k 1)))", "(calc 1 (= 1 (by (label l))) (= (old l 1)))", "(label l) (set nowhere (old l 1))"))
		asked(t, around, all(api.ErrDup,
			"(label l) (label l)", "(label l (label l))", "(label l (label l (set nowhere 1)))", "(if true ((label l)) ((label l)))", "(block (label l)) (label l)", "(label l) (assert true (by (label l)))", "(label l) (while true () (label l))", "(label k) (label l) (calc 1 (= 1 (by (label k))))"))
	}
	isLet(t, "one label in two bodies", forms("(method a () () (body (label l))) (class C () (method a () () (body (label l))) (method b () () (body (label l))) (function g () int (by (label l)) 1))"))
	refused(t, "a label of another body", forms("(class C () (method a () () (body (label l))) (method b () () (body (assert (old l 1)))))"), "C", api.ErrName)
}

// P7.1: traits of classes and traits.
func TestTraits(t *testing.T) {
	for _, head := range []string{"class", "trait"} {
		asked(t, "("+head+" q @)", all(api.OK, "()", "(T)", "(U T)", "(T U) (field x q) (method x1 () ())"))
		asked(t, "("+head+" q @)", []place{
			{"(C)", api.ErrName}, {"(nowhere)", api.ErrName}, {"(D)", api.ErrName}, {"(f)", api.ErrName}, {"(T C T)", api.ErrName}, {"(T nowhere) (field x (bits 0))", api.ErrName},
			{"(T T)", api.ErrDup}, {"(T U T C)", api.ErrDup}, {"(T T) (field x nowhere)", api.ErrDup}, {"(T) (field x (D)) (field y nowhere)", api.ErrType},
		})
	}
	refused(t, "a class as its own trait", forms("(class C (C))"), "C", api.ErrName)
	for _, c := range []struct {
		p, name string
		err     api.Errno
	}{
		{"(trait A (A))", "A", api.ErrLoop},
		{"(trait B (A)) (trait A (B))", "B", api.ErrLoop},
		{"(class C (A)) (trait X (A)) (trait A (B)) (trait B (D)) (trait D (A))", "A", api.ErrLoop},
		{"(class C (A)) (trait X (A)) (trait D (A)) (trait A (B)) (trait B (D))", "D", api.ErrLoop},
		{"(trait A (A A))", "A", api.ErrLoop},
		{"(trait A (A nowhere))", "A", api.ErrLoop},
		{"(trait A (nowhere A))", "A", api.ErrName},
		{"(trait A (X X A)) (trait X ())", "A", api.ErrDup},
		{"(trait A (A) (field x nowhere))", "A", api.ErrLoop},
		{"(trait A (B)) (trait B (A nowhere))", "A", api.ErrLoop},
		{"(trait A (B)) (trait B (C)) (class C (A))", "B", api.ErrName},
		{"(function f () int x) (trait A (A))", "f", api.ErrName},
		{"(class C (A) (function f () int x)) (trait A (A))", "C", api.ErrName},
	} {
		refused(t, c.p, forms(c.p), c.name, c.err)
	}
	isLet(t, "two ways to a trait", forms("(class C (A B)) (trait A (D)) (trait B (D A)) (trait D ())"))
}

// P7.1: each name of a program stands there once.
func TestTwice(t *testing.T) {
	for _, c := range []struct{ p, name string }{
		{"(data D () (X)) (data D () (Y))", "D"}, {"(data D () (X)) (data E () (X))", "E"}, {"(data D () (X)) (data X () (Y))", "X"}, {"(data D () (D))", "D"}, {"(data D () (X) (E)) (codata E () (Y))", "E"},
		{"(function f () int) (function f () int)", "f"}, {"(function f () int) (ghost (method f () ()))", "f"}, {"(class C ()) (method C () ())", "C"}, {"(lemma f () ()) (extern f () ())", "f"},
		{"(least f () true) (greatest f () true)", "f"}, {"(trait f ()) (sub f (x int) true 1)", "f"}, {"(predicate f ()) (data D () (f))", "D"}, {"(twostate f ()) (data D () (g) (f)) (data f () (g))", "D"},
		{"(function a () int nowhere) (function f () int) (function f () int)", "f"}, {"(data D () (X (x nowhere))) (function f () int) (function b () int) (function f () int) (function b () int)", "f"},
	} {
		refused(t, c.p, forms(c.p), c.name, api.ErrDup)
	}
	isLet(t, "names that are no names of the program", forms("(data D (a) (X (a int) (f int)) (Y (f int) (D int))) (data E () (Z (f bool))) (class C () (field f int) (function C () int) (method D () ())) (function f (tp f) ((f f)) f f) (method m ((m int)) ((f int)) (body (var C int) (label D) (set C m)))"))
}

// P7.1: ErrArg, and then layer 4's errors, come ahead of all else, and tell no
// name.
func TestMalformed(t *testing.T) {
	var many []api.Form
	for i := range 201 {
		many = append(many, forms("(function f"+strconv.Itoa(i)+" () int)")...)
	}
	refused(t, "201 declarations", many, "", api.ErrArg)
	isLet(t, "200 declarations", many[1:])
	isLet(t, "none", nil)
	many[3] = word("x")
	refused(t, "201 declarations, one of which is none", many, "", api.ErrArg)
	refused(t, "200 declarations, one of which is none", many[1:], "", api.ErrForm)

	isNot := "(function f () int nowhere) (function f () int)"
	for _, c := range []struct {
		p    string
		want api.Errno
	}{
		{isNot + "x", api.ErrForm}, {isNot + "(function f)", api.ErrForm}, {isNot + "(module M)", api.ErrForm}, {isNot + "1", api.ErrForm}, {isNot + "\"f\"", api.ErrForm}, {isNot + "()", api.ErrForm}, {isNot + "(ghost (lemma f () ()))", api.ErrForm},
		{isNot + "(function g ((x int) (x int)) int)", api.ErrDup}, {isNot + "(function g ((x int) (x int)) int) (function f)", api.ErrDup}, {isNot + "(function f) (function g ((x int) (x int)) int)", api.ErrForm},
		{isNot + "(class C () (method m () ()) (field m int))", api.ErrDup}, {isNot + "(method m () () (body (set result 1)))", api.ErrForm}, {isNot + "(data D ())", api.ErrForm}, {isNot + "(ghost (trait T ()))", api.ErrForm},
	} {
		refused(t, c.p, forms(c.p), "", c.want)
	}
	for what, f := range map[string]api.Form{
		"no kind": {Kind: 7}, "a list with a text": {Kind: api.List, Text: "x", Kids: forms("function f () int")}, "a bad word within": list(append(forms("function f () int"), word(""))...),
		"too large": repeat("function", api.MaxForm, word("f")), "a number out of range": list(append(forms("function f () int"), num(api.MaxInt+1))...),
	} {
		refused(t, what, append(forms(isNot), f), "", api.ErrArg)
	}
	refused(t, "a malformed one behind an invalid one", append([]api.Form{{Kind: 7}}, forms("(function f)")...), "", api.ErrArg)
}

// P7.1: within a declaration it is the first place that counts, whichever its
// error, and of declarations the first one.
func TestFirstPlace(t *testing.T) {
	const d, n, y = "(match 1 (One () 1) (One () 1))", "nowhere", "(empty (bits 0))" // ErrDup, ErrName, ErrType
	errs := map[string]api.Errno{d: api.ErrDup, n: api.ErrName, y: api.ErrType}
	var places []place
	for first, err := range errs {
		for second := range errs {
			places = append(places, place{first + " " + second, err})
		}
	}
	for _, around := range []string{
		"(function q () int (call f @))", "(function q () int (reads @))", "(method q () () (decreases @))", "(function q () int (if @ nowhere))", "(function q () int (let (x 1) (map (@))))",
		"(method q () ((r int)) (body (call (r) m @)))", "(method q () () (body (send () 1 cm @)))", "(method q () () (body (while true ((modifies @)))))", "(sub q (x int) @)", "(function q () int (forall ((x int)) (trigger @) true))",
		"(lemma q () () (body (store (seq @) x nowhere)))", "(lemma q () () (body (lemma (x @) (requires nowhere) nowhere nowhere)))",
	} {
		asked(t, around, places)
	}
	asked(t, "(method q @", []place{
		{"((x (bits 0)) (y no)) () (requires no))", api.ErrType}, {"((y no) (x (bits 0))) () (requires no))", api.ErrName}, {"() ((x (bits 0))) (requires no))", api.ErrType}, {"() () (ensures (empty (bits 0))) (requires no))", api.ErrType},
		{"() () (requires (empty (bits 0))) (body (set no 1)))", api.ErrType}, {"() () (requires no) (body (var x (bits 0))))", api.ErrName}, {"() () (body (var x (bits 0) no)))", api.ErrType}, {"() () (body (set no (empty (bits 0)))))", api.ErrName},
		{"() () (body (new no C (x (empty (bits 0))))))", api.ErrName}, {"() () (body (call (no) m (empty (bits 0)))))", api.ErrName}, {"() () (body (call () no (empty (bits 0)))))", api.ErrName}, {"() () (body (send (no) (empty (bits 0)) cm)))", api.ErrName},
		{"() () (body (send () (empty (bits 0)) no)))", api.ErrType}, {"() () (body (send () 1 no (empty (bits 0)))))", api.ErrName}, {"() () (body (choose no (empty (bits 0)) 1 1)))", api.ErrName}, {"() () (body (store (empty (bits 0)) no 1)))", api.ErrType}, {"() () (body (store 1 no (empty (bits 0)))))", api.ErrName},
		{"() () (body (while (empty (bits 0)) ((invariant no)))))", api.ErrType}, {"() () (body (while true ((invariant (empty (bits 0)))) (set no 1))))", api.ErrType}, {"() () (body (case (empty (bits 0)) (no ()))))", api.ErrType}, {"() () (body (if (empty (bits 0)) ((set no 1)) ())))", api.ErrType}, {"() () (body (assert (empty (bits 0)) (by (set no 1)))))", api.ErrType},
		{"() () (body (calc (empty (bits 0)) (= no))))", api.ErrType}, {"() () (body (calc 1 (= (empty (bits 0)) (by (set no 1))))))", api.ErrType}, {"() () (body (each (x (empty (bits 0)) no) (store 1 x 1))))", api.ErrType}, {"() () (body (lemma (x 1 2) (requires (empty (bits 0))) no)))", api.ErrType},
		{"() () (body (lemma (x 1 2) (requires 1) no (empty (bits 0)))))", api.ErrName}, {"() () (body (label l) (label l (set no 1))))", api.ErrDup}, {"() () (body (new x nowhere (x (empty (bits 0))))))", api.ErrName},
	})
	asked(t, "(function q @)", []place{
		{"((x no)) (bits 0)", api.ErrName}, {"() (bits 0) no", api.ErrType}, {"(tp a) ((x (set a))) no", api.ErrType}, {"() int (imap no (bits 0))", api.ErrName}, {"() int (imap (empty (bits 0)) no)", api.ErrType}, {"() int (call no (of (bits 0)))", api.ErrName}, {"() int (call f (of (bits 0)) no)", api.ErrType},
		{"() int (make no (of (bits 0)))", api.ErrName}, {"() int (get no (empty (bits 0)))", api.ErrName}, {"() int (is no (empty (bits 0)))", api.ErrName}, {"() int (old no (empty (bits 0)))", api.ErrName}, {"() int (fuel 1 no (empty (bits 0)))", api.ErrName}, {"() int (prefix no (empty (bits 0)))", api.ErrName},
		{"() int (fn ((x (bits 0))) no)", api.ErrType}, {"() int (let (x (empty (bits 0))) no)", api.ErrType}, {"() int (match (empty (bits 0)) (no () 1))", api.ErrType}, {"() int (forall ((x (bits 0))) (trigger no) 1)", api.ErrType},
	})
	isIn := func(name, of string) string { return "(function " + name + " () int " + of + ") " }
	for _, c := range []struct {
		p, name string
		err     api.Errno
	}{
		{isIn("b", y) + isIn("a", n), "b", api.ErrType}, {isIn("c", "1") + isIn("b", n) + isIn("a", y), "b", api.ErrName}, {isIn("c", "1") + "(ghost " + isIn("b", y) + ")" + isIn("a", n), "b", api.ErrType},
	} {
		refused(t, c.p, forms(c.p), c.name, c.err)
	}
}

// P7.1: that functions end, and soon, for programs that are as large as they may be.
func TestLarge(t *testing.T) {
	lists := func(n int, head string) string { return strings.Repeat("("+head+" ", n) + "1" + strings.Repeat(")", n) }
	deep := "(function f () int " + lists(96, "neg") + ")"
	isLet(t, "a deep one", forms(deep))
	var vars []api.Form
	for i := range 3000 {
		name := word("v" + strconv.Itoa(i))
		vars = append(vars, list(word("var"), name, word("int"), name))
	}
	body := list(append([]api.Form{word("body")}, vars...)...)
	refused(t, "many variables", []api.Form{list(word("method"), word("m"), list(), list(), body)}, "m", api.ErrName)
	for i := range vars {
		vars[i].Kids[3] = num(i)
	}
	isLet(t, "many variables", []api.Form{list(word("method"), word("m"), list(), list(), body)})
	var subs, traits []api.Form
	for i := range 200 {
		next := strconv.Itoa((i + 1) % 200)
		subs = append(subs, forms("(sub s"+strconv.Itoa(i)+" (x (map s"+next+" (seq s"+next+"))) true 1)")...)
		traits = append(traits, forms("(trait t"+strconv.Itoa(i)+" (t"+next+"))")...)
	}
	refused(t, "a circle of subs", subs, "s0", api.ErrType)
	refused(t, "a circle of traits", traits, "t0", api.ErrLoop)
	subs[199] = forms("(sub s199 (x int) true 1)")[0]
	isLet(t, "a row of subs", subs)
	if table := scope.Table(subs); len(table) != 200 || !table[0].Eq {
		t.Errorf("Table of a row of subs: %s", rows(table))
	}
	many := "(method m () () (body" + strings.Repeat(" (send () 1 m)", 200) + "))"
	var classes []api.Form
	for i := range 200 {
		classes = append(classes, forms("(class C"+strconv.Itoa(i)+" () "+many+")")...)
	}
	if edges, err := scope.Graph(classes); err != api.OK || len(edges) != 200*200 {
		t.Errorf("Graph of many sends: error %d, %d calls", err, len(edges))
	}
	if !reader.Valid(classes[0]) {
		t.Error("a class is no valid form")
	}
}
