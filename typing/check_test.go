package typing_test

import (
	"strings"
	"testing"
)

// asked puts all of some texts in the place of @ in a declaration q of the world,
// and holds what Check tells against what is wanted.
func asked(t *testing.T, around, want string, texts ...string) {
	t.Helper()
	if want != "OK" {
		want = "q " + want
	}
	for _, s := range texts {
		decl := strings.Replace(around, "@", s, 1)
		if got := checked(forms(world + decl)); got != want {
			t.Errorf("Check %s: %s, not %s", decl, got, want)
		}
	}
}

// P8.1, P8.2: statements.
func TestStatements(t *testing.T) {
	const around = `(method q ((i int) (c C) (a A) (cm (maybe C)) (tm (maybe T)) (e E) (li (L int)) (f (fun (int) int)) (z (imap int int)) (qn (seq nat)) (sc (set C)))
		((r int) (n nat) (b bool) (t T) (co C) (om (maybe C)) (k (L nat)) (bo B) (oc oc) (bi (bits 2))) (body (var v int) @))`
	asked(t, around, "OK",
		"", "(var w nat i)", "(var w nat)", "(var w (maybe T) null)", "(var w T c)", "(var w (seq int) qn)", "(var w (L nat) li)", "(var i bool true) (set i b)", "(var v nat) (var v bool) (set v b)", "(var w mc c)", "(var w (fun (nat) nat) f)",
		"(set r 1)", "(set n r)", "(set b (< r n))", "(set t c)", "(set t a)", "(set om null)", "(set om c)", "(set om cm)", "(set k li)", "(set oc c)", "(set co oc)", "(set k (make Nil (of int)))",
		"(store c x i)", "(store c tx n)", "(store cm x 1)", "(store oc o null)", "(store c o co)", "(store t tx 1)", "(store tm ux 1)", "(store c ug b)", "(store c gx li)", "(store t ug true)",
		"(new co C (d (make O2 b)))", "(new co C)", "(new om C (x 1) (o co) (ux i) (tx 1))", "(new t C)", "(new t A (tx 1))", "(new bo B (f f))", "(new bo B (bx 1) (f (fn ((x nat)) x)))", "(new oc C (o null) (gx k) (ug b))",
		"(call (n r) m 1 c)", "(call (r n) m n t)", "(call () lm i)", "(call (n) ex)", "(call () gm null)", "(call () gm cm)", "(call () gm a)", "(send (r co) c cm 1 t)", "(send (n om) cm cm n a)", "(send (r) t tm 1)", "(send (n) tm tm n)", "(send () c cl)", "(send () oc cn)", "(send (v oc) oc cm v t)",
		"(choose r 0 n (< r 1))", "(choose n i 9 (= n 1))", "(if b () ())", "(if (= c t) ((set r 1)) ((set b (= r 1))))", "(while b ())", "(while (< r 1) ((invariant b) (invariant (= n 1)) (decreases r n b li c) (modifies c tm sc cm oc)) (set r 1))", "(while b ((decreases) (modifies)))",
		"(case e (One ()) (Two (x y) (set n x) (set r x)))", "(case li (Cons (h l) (set r h) (set k l)))", "(case k (Nil () (set r 1)))",
		"(assert b)", "(assert b (by (set r 1) (assert (= r 1))))", "(assume b)", "(expect (< r 1))", "(leave)", "(label l (set r 1))", "(label l) (assert (old l b))", "(each (x 0 i) (store c x x))", "(each (x n r) (store (at (seq c) x) o null))", "(lemma (x 0 i) (requires (< x 1)) lm x)",
		"(calc 1)", "(calc r (= n) (<= v) (< 9))", "(calc b (=> true) (iff b (by (assert b))) (= false))", "(calc c (= t) (= co) (= cm))", "(calc null (= om))", "(calc f (= f))", "(calc z (= z))", "(reveal up)", "(ghost (set r 1))", "(block (var w nat 1) (set r w))", "(ghost)", "(block)")
	asked(t, around, "error 8",
		"(var w nat b)", "(var w int null)", "(var w T tm)", "(var w (seq T) (seq c))", "(var w (maybe C) tm)", "(var i bool true) (set i 1)", "(block (var v bool) (set v 1))", "(var v bool) (set v i)", "(var w (fun (int) T) (fn ((x int)) c))", "(var w C null)", "(var w bool) (set w w) (set w 1)",
		"(set r b)", "(set b 1)", "(set co t)", "(set co null)", "(set co cm)", "(set om t)", "(set bi 1)", "(set k (make Nil (of bool)))", "(set t tm)", "(set co a)", "(set oc tm)", "(set r (make Nil))",
		"(store c x b)", "(store t x 1)", "(store 1 x 1)", "(store null x 1)", "(store c bx 1)", "(store c uf 1)", "(store c cm 1)", "(store e ux 1)", "(store c o t)", "(store c d 1)", "(store sc x 1)", "(store a x 1)", "(store c cp b)",
		"(new co C (x b))", "(new co C (x 1) (x 1))", "(new co C (x 1) (o null) (x 1))", "(new bo B)", "(new bo B (bx 1))", "(new bo B (f i))", "(new bo B (f (fn ((x int)) b)))", "(new co A)", "(new bo C)", "(new om A)", "(new r C)", "(new co B (f f))", "(new oc C (o t))",
		"(call () m 1 c)", "(call (n) m 1 c)", "(call (n r v) m 1 c)", "(call (n r) m 1)", "(call (n r) m 1 c c)", "(call (n r) m b c)", "(call (n r) m 1 tm)", "(call (b r) m 1 c)", "(call (r b) m 1 c)", "(call (r) lm 1)", "(call () lm b)", "(call () lm)", "(call (b) ex)", "(call () ex)", "(call () gm i)",
		"(send () c cm 1 t)", "(send (r co) t cm 1 t)", "(send (r co) c cm b t)", "(send (r co) c cm 1 tm)", "(send (r co) c cm 1)", "(send (b co) c cm 1 t)", "(send (r bo) c cm 1 t)", "(send () null cl)", "(send () 1 cl)", "(send () c x)", "(send () c uf)", "(send () a cl)", "(send () sc cl)", "(send (r) c cl)", "(send (co) t tm 1)", "(send (r t) cm cm 1 bo)",
		"(choose r b 1 true)", "(choose r 0 b true)", "(choose r 0 1 r)", "(choose b 0 1 true)", "(choose t 0 1 true)", "(choose bi 0 1 true)", "(if 1 () ())", "(if null () ())", "(if b ((set r b)) ())", "(if b () ((set r b)))", "(while r ())", "(while b ((invariant r)))", "(while b ((decreases f)))", "(while b ((decreases r z)))", "(while b ((decreases (fn () 1))))", "(while b ((modifies r)))", "(while b ((modifies c (seq c))))", "(while b ((modifies null)))", "(while b ((modifies li)))", "(while b ((modifies (set 1))))", "(while b () (set r b))",
		"(case r (One ()))", "(case li (One ()))", "(case e (One (x)))", "(case e (Two (x)))", "(case e (Two (x y) (set b x)))", "(case e (One () (set r b)))", "(case c (Nil ()))", "(case li (Cons (h l) (set b h)))",
		"(assert r)", "(assert b (by (set r b)))", "(assume 1)", "(expect null)", "(label l (set r b))", "(each (x b 1) (store c x 1))", "(each (x 0 b) (store c x 1))", "(each (x 0 1) (store c x b))", "(each (x 0 1) (store x x 1))", "(each (x 0 1) (store t x 1))", "(lemma (x b 1) (requires b) lm 1)", "(lemma (x 0 b) (requires b) lm 1)", "(lemma (x 0 1) (requires x) lm 1)", "(lemma (x 0 1) (requires b) lm b)", "(lemma (x 0 1) (requires b) lm)", "(lemma (x 0 1) (requires b) lm x x)",
		"(calc (+ b 1))", "(calc 1 (= b))", "(calc b (= b) (= 1))", "(calc 1 (<= b))", "(calc b (<= 1))", "(calc 1 (< null))", "(calc 1 (=> b))", "(calc b (=> 1))", "(calc 1 (iff 1))", "(calc b (iff c))", "(calc r (< n) (=> b))", "(calc c (= a))", "(calc b (= b (by (set r b))))", "(calc b (= b (by (var r bool))) (= r))", "(calc null (= 1))", "(ghost (set r b))", "(block (set r b))", "(block (block (assert r)))")
	asked(t, around, "error 5", "(set bi (bits 2 4))", "(assert (= bi (bits 2 5)))", "(var w (bits 1) (bits 1 2))", "(ghost (assert (= bi (bits 3 8))))", "(calc bi (= (bits 2 4)))", "(new co C (x (bnum (bits 2 4))))")
	// A sub of an object is one, too.
	asked(t, "(method q ((x oc) (y mc)) () (modifies x y) (body @))", "OK", "(store x x 1)", "(store y o null)", "(send () y cl)", "(send () x cn)", "(call () gm y)", "(assert (fresh y))")
}

// P8.1, P8.2: clauses and expressions of functions.
func TestFunctions(t *testing.T) {
	const function = "(function q ((i int) (c C) (f (fun (int) int)) (n nat) (z (imap int int)) (sc (set (maybe T))) (b bool)) nat @)"
	asked(t, function, "OK", "", "i", "n", "(requires b) (ensures (< result i)) (ensures (= result n)) (reads c sc) (decreases i b c sc) (opaque) (fuel 3) 1", "(reads)", "(decreases)", "(reads (get o c) (set c))", "(requires (< i 1)) (requires (= c c))", "(by (set result i)) n", "(by (var x int n) (set result x) (call (result) ex)) 1", "(fuel 2 q i)", "(fuel 2)", "(ensures (let (result1 result) (< result1 1)))", "(if b i n)", "(app f i)", "(by (leave)) 1")
	asked(t, function, "error 8", "b", "c", "null", "f", "(requires i)", "(requires b) (requires null)", "(ensures result)", "(ensures (and result))", "(ensures (not result)) 1", "(reads i)", "(reads c n)", "(reads (seq c))", "(reads null)", "(reads (set i))", "(reads f)", "(decreases f)", "(decreases i z)", "(decreases (fn () i))", "(decreases (imap 1 int))", "(by (set result b)) 1", "(by (set result i)) b", "(by (var x bool i)) 1", "(by (assert i)) 1", "(by (call (result) lm i)) 1", "(by (new result C)) 1", "(fuel 2 q b)", "(make Nil (of int))", "(ensures b) (ensures (< result b)) 1")
	for _, head := range []string{"predicate", "twostate"} {
		asked(t, "("+head+" q ((i int) (b bool) (c C)) @)", "OK", "", "b", "(ensures result) (requires b) (reads c) (decreases i) (< i 1)", "(by (set result b)) true", "(ensures (=> result (call q i result c)))", "(old (= (get x c) i))")
		asked(t, "("+head+" q ((i int) (b bool) (c C)) @)", "error 8", "i", "null", "(ensures (< result 1))", "(requires i) b", "(by (set result i)) true", "(reads i) b", "(ensures (= result i)) b")
	}
	for _, head := range []string{"least", "greatest"} {
		asked(t, "("+head+" q ((i int) (n nat)) @)", "OK", "true", "(or (< i 1) (call q (- i 1) i))", "(prefix q i i n)")
		asked(t, "("+head+" q ((i int) (n nat)) @)", "error 8", "i", "null", "(call q i)", "(prefix q true i n)", "(call q i true)")
	}
	for _, around := range []string{"(ghost (function q ((i int)) nat @))", "(trait q () (ghost (function w ((i int)) nat @)))", "(class q () (function w ((i int)) nat @))", "(function q (tp a) ((i int) (x a)) nat @)"} {
		asked(t, around, "OK", "", "i", "(requires (< i 1)) (ensures (< result i)) (by (set result i)) 1")
		asked(t, around, "error 8", "true", "(requires i)", "(ensures result) 1", "(by (set result true)) 1")
	}
	asked(t, "(function q (tp a b) ((x a) (y b) (f (fun (a) b)) (m (map int a))) b @)", "OK", "y", "(app f x)", "(app f (look m 1))", "(let (z x) (app f z))", "(call id (app f x))", "(match (make Pair y x) (Pair (c d) c) (Flip (c d) d))", "(requires (= x x)) (decreases x y) (by (set result y)) y", "(at (seq y) 0)", "(get fst (make Pair y y))", "(get snd (call two x y))")
	asked(t, "(function q (tp a b) ((x a) (y b) (f (fun (a) b)) (m (map int a))) b @)", "error 8", "x", "1", "(app f y)", "(if true x y)", "(requires (= x y))", "(requires (< x 1))", "(requires (= 1 x))", "(requires (in x (set x)))", "(reads x)", "(look m y)", "(requires (= (make Nil (of a)) (make Nil (of b))))", "(call both x y)", "null")
}

// P8.1, P8.2: clauses of methods and their like, which know params, and results
// in ensures and the body.
func TestMethods(t *testing.T) {
	for _, around := range []string{"(method q ((i int) (c C) (f (fun () int))) ((r int) (b bool)) @)", "(ghost (method q ((i int) (c C) (f (fun () int))) ((r int) (b bool)) @))", "(lemma q ((i int) (c C) (f (fun () int))) ((r int) (b bool)) @)",
		"(class q () (method w ((i int) (c C) (f (fun () int))) ((r int) (b bool)) @))", "(trait q () (lemma w ((i int) (c C) (f (fun () int))) ((r int) (b bool)) @))", "(class q () (ghost (method w ((i int) (c C) (f (fun () int))) ((r int) (b bool)) @)))"} {
		asked(t, around, "OK", "", "(requires (< i 1)) (ensures b) (ensures (< r i)) (modifies c (get o c) (set c)) (decreases i c)", "(body)", "(body (set r i) (set b (= r 1)))", "(ensures (= b (< i r))) (body (leave))")
		asked(t, around, "error 8", "(requires i)", "(ensures r)", "(ensures (= b r))", "(modifies i)", "(modifies c f)", "(decreases f)", "(body (set r b))", "(body (set b i))", "(body (assert r))", "(requires c) (body)")
	}
	asked(t, "(extern q ((i int)) ((r int)) @)", "OK", "", "(requires (< i 1)) (ensures (< r i)) (decreases i) (modifies)")
	asked(t, "(extern q ((i int)) ((r int)) @)", "error 8", "(requires i)", "(ensures r)", "(modifies i)", "(decreases (fn () 1))")
	asked(t, "(class q () (field n q) (method w () ((r q) (m (maybe q))) (requires (= this (get n this))) (ensures (= r this)) (modifies this (get n this)) (body @)))", "OK", "(set r this)", "(set m this)", "(store this n r)", "(send (r m) this w)", "(new r q (n this))")
	asked(t, "(class q () (field n q) (method w () ((r q) (m (maybe q))) (body @)))", "error 8", "(set r m)", "(store this n m)", "(send (m r) this w)", "(new r q)", "(assert this)", "(store m n null)")
}

// P8.2: what clauses ask of a subset type they ask of its base.
func TestClausesOfSubs(t *testing.T) {
	const subs = "(sub fs (x (fun () int)) true (fn () 1)) (sub os (x (set C)) true (empty (set C))) (sub bs (x bool) true x) "
	asked(t, subs+"(function q ((f fs) (o os) (b bs) (c oc) (m mc)) int @)", "OK", "(reads o c m)", "(decreases o b c)", "(requires b)", "(requires (every (x o) (= x c))) (len (seq o))", "(app f)", "(if b (app f) (card o))", "(card (join o (set c)))")
	asked(t, subs+"(function q ((f fs) (o os) (b bs) (c oc) (m mc)) int @)", "error 8", "(decreases f)", "(decreases b (seq o) f)", "(reads b)", "(reads f)", "(reads (seq c))", "(requires o)", "b")
	asked(t, subs+"(method q ((o os) (b bs) (c oc)) ((d bs)) (modifies o c) (body @))", "OK", "(while b ((modifies o)) (set d (not b)))", "(if d () ())", "(assert b)", "(store c x (card o))", "(calc b (iff d) (= true))")
	asked(t, subs+"(method q ((o os) (b bs) (c oc)) ((d bs)) (modifies o c) (body @))", "error 8", "(while o ())", "(while b ((modifies b)))", "(set d o)", "(store o x 1)", "(calc o (=> b))")
}

// P8.1, P8.2: subset types. Those that lead back to themselves are none.
func TestSubs(t *testing.T) {
	asked(t, "(sub q (x nat) @)", "OK", "true 1", "(< x 3) 2", "(= x (call up x null)) x", "true (call none)", "(call pr x) 1")
	asked(t, "(sub q (x nat) @)", "error 8", "x 1", "true true", "true null", "null 1", "(< x true) 1", "true (seq 1)")
	asked(t, "(sub q (x nat) @)", "error 5", "(= (bits 1 2) (bits 1 0)) 1", "true (bnum (bits 3 8))")
	for _, c := range []string{"(sub q (x q) true 1)", "(sub q (x (seq q)) true (empty (seq int)))", "(sub q (x (map int r)) true (empty (map int int))) (sub r (x q) true 1)", "(sub q (x r) true 1) (sub r (x s) true 1) (sub s (x r) true 1)"} {
		if got := checked(forms(c)); got != "q error 8" {
			t.Errorf("Check %s: %s", c, got)
		}
	}
	asked(t, "(sub q (x r) true @) (sub r (x (L nat)) true (make Nil (of int)))", "OK", "(make Cons 1 (make Nil (of nat)))", "x")
}

// P8.2: a class has the members of its traits, or has them by the body of one,
// and as they have them.
func TestOverriding(t *testing.T) {
	const traits = `(sub nat (n int) (<= 0 n) 0) (trait A () (function f ((x int)) int) (predicate p ()) (method m ((x int)) ((y nat))) (field v int) (ghost (field g int)) (ghost (function gf () nat)) (ghost (method gm () ())) (lemma l ((x int)) ()) (twostate w ()))
		(trait B (A) (function f ((x int)) int 1) (method h () ((y int)))) (trait D () (predicate p () true) (method h () ((y int)) (body))) (trait O () (field v int) (field o C)) (class C ()) `
	const all = "(function f ((x int)) int) (predicate p ()) (method m ((x int)) ((y nat))) (ghost (function gf () nat)) (ghost (method gm () ())) (lemma l ((x int)) ()) (twostate w ())"
	for c, want := range map[string]string{
		"(class q (A) @)": "OK", "(class q (A) @ (field v int) (ghost (field g int)) (field z bool) (method other () ()))": "OK", "(class q (B) @ (method h () ((y int))))": "OK", "(class q (B D) @)": "OK", "(class q (D B) @)": "OK", "(class q (D) @)": "OK", "(class q (D))": "OK", "(class q (O))": "OK", "(class q (O) (field o C))": "OK", "(class q ())": "OK", "(class q (A O) @)": "OK",
		"(class q (A))": "error 8", "(class q (B))": "error 8", "(class q (B) @)": "error 8", "(class q (D B))": "error 8", "(class q (O) (field o (maybe C)))": "error 8", "(class q (O) (field v nat))": "error 8", "(class q (O) (ghost (field v int)))": "error 8", "(class q (O) (function v () int))": "error 8", "(class q (A O) (field o int) @)": "error 8",
		// A trait need not have them.
		"(trait q (A))": "OK", "(trait q (A B) (function f () bool true) (field p int))": "OK",
	} {
		decl := strings.Replace(c, "@", all, 1)
		if want != "OK" {
			want = "q " + want
		}
		for _, p := range []string{traits + decl, decl + traits} {
			if got := checked(forms(p)); got != want {
				t.Errorf("Check %s: %s, not %s", c, got, want)
			}
		}
	}
	// Each one that is missing, or is not like that of the trait.
	for _, c := range [][]string{
		{"(function f ((x int)) int)", "", "(function f ((y int)) int)", "(function f ((x nat)) int)", "(function f ((x int)) nat)", "(function f () int)", "(function f ((x int) (y int)) int)", "(ghost (function f ((x int)) int))", "(predicate f ((x int)))", "(method f ((x int)) ())", "(field f int)"},
		{"(predicate p ())", "", "(predicate p ((x int)))", "(twostate p ())", "(function p () bool)", "(ghost (predicate p ()))", "(field p bool)"},
		{"(method m ((x int)) ((y nat)))", "", "(method m ((x int)) ((y int)))", "(method m ((x int)) ((z nat)))", "(method m ((x nat)) ((y nat)))", "(method m ((z int)) ((y nat)))", "(method m () ((y nat)))", "(method m ((x int)) ())", "(lemma m ((x int)) ((y nat)))", "(ghost (method m ((x int)) ((y nat))))", "(function m ((x int)) nat)"},
		{"(ghost (function gf () nat))", "", "(function gf () nat)", "(ghost (function gf () int))", "(ghost (predicate gf ()))", "(ghost (field gf nat))", "(ghost (function gf ((x int)) nat))"},
		{"(ghost (method gm () ()))", "", "(method gm () ())", "(lemma gm () ())", "(ghost (method gm () ((r int))))"},
		{"(lemma l ((x int)) ())", "", "(lemma l () ())", "(method l ((x int)) ())", "(lemma l ((x int)) ((y int)))"},
		{"(twostate w ())", "", "(predicate w ())", "(twostate w ((x int)))"},
	} {
		for i, other := range c {
			want := "q error 8"
			if i == 0 {
				want = "OK"
			}
			decl := "(class q (A) " + strings.Replace(all, c[0], other, 1) + ")"
			if got := checked(forms(traits + decl)); got != want {
				t.Errorf("Check %s: %s, not %s", decl, got, want)
			}
		}
	}
	// What clauses and bodies say is their own.
	isLet(t, "members with clauses", forms(traits+"(class q (A) (function f ((x int)) int (requires (< x 1)) (ensures (< result 1)) x) (predicate p () false) (method m ((x int)) ((y nat)) (ensures (< x y)) (modifies this) (body (set y 1))) (ghost (function gf () nat (opaque) 1)) (ghost (method gm () () (body))) (lemma l ((x int)) () (body)) (twostate w () true))"))
}
