package typing_test

import (
	"strings"
	"testing"

	"plinth/api"
	"plinth/typing"
)

// typed fails unless expressions have types, in the world with its locals, within
// class C.
func typed(t *testing.T, cases ...string) {
	t.Helper()
	p, vars := forms(world), varsOf(locals)
	for _, c := range cases {
		e, want, _ := strings.Cut(c, " : ")
		if got := told(typing.Type(p, vars, "C", form(e))); got != want {
			t.Errorf("Type %s: %s, not %s", e, got, want)
		}
	}
}

// mistyped fails unless expressions have an error.
func mistyped(t *testing.T, want api.Errno, cases ...string) {
	t.Helper()
	for _, c := range cases {
		typed(t, c+" : "+failed(want))
	}
}

// P8.2: the world is let.
func TestWorld(t *testing.T) {
	isLet(t, "the world", forms(world))
}

// P8.2: numbers, words, truths and arithmetic.
func TestPlain(t *testing.T) {
	typed(t, "1 : int", "-3 : int", "true : bool", "false : bool", "null : null", "this : C", "i : int", "n : nat", "m : small", "mc : mc", "qs : nats", "fk : (fun (nat) nat)", "ln : (L nat)",
		"(+ 1 i) : int", "(- n m) : int", "(* n n) : int", "(div m 2) : int", "(mod 2 m) : int", "(neg n) : int", "(< 1 n) : bool", "(<= m n) : bool",
		"(= 1 n) : bool", "(= b true) : bool", "(= f f) : bool", "(= si si) : bool", "(= z z) : bool", "(= c t) : bool", "(= t c) : bool", "(= c cm) : bool", "(= cm t) : error 8", "(= tm c) : bool", "(= tm cm) : bool", "(= null cm) : bool", "(= mc null) : bool", "(= null null) : bool", "(= ln li) : bool", "(= qn qs) : bool", "(= fk (fn ((x int)) x)) : bool",
		"(not b) : bool", "(and) : bool", "(or) : bool", "(and b) : bool", "(or b true (< 1 2)) : bool", "(=> b b) : bool", "(iff b true) : bool")
	mistyped(t, api.ErrType, "(+ 1 b)", "(+ true 1)", "(+ null 1)", "(- c 1)", "(* w 1)", "(div q 1)", "(mod 1 b)", "(neg b)", "(< 1 b)", "(< b 1)", "(<= w w)", "(< c c)",
		"(= 1 b)", "(= null 1)", "(= c null)", "(= null c)", "(= c a)", "(= q qc)", "(= qc qt)", "(= w v)", "(= li 1)", "(= li (make Nil (of bool)))", "(= f fk)", "(= fc (fn ((x C)) x))", "(= sc s)", "(= t mc)",
		"(not 1)", "(and b 1)", "(and 1 b)", "(or b null)", "(=> 1 b)", "(=> b 1)", "(iff 1 1)", "(iff b i)")
	mistyped(t, api.ErrName, "x", "nat", "L", "result", "id", "true1", "x'", "(+ 1 x)", "(neg result)")
	p := forms(world)
	for class, want := range map[string]string{"": "error 6", "C": "C", "T": "T", "U": "U", "B": "B"} {
		if got := told(typing.Type(p, nil, class, form("this"))); got != want {
			t.Errorf("this of %s: %s, not %s", class, got, want)
		}
	}
}

// P8.2: what is of one of several types.
func TestJoined(t *testing.T) {
	typed(t, "(if b 1 2) : int", "(if b n 1) : nat", "(if b 1 n) : int", "(if b n m) : nat", "(if b m n) : small", "(if b c t) : T", "(if b t c) : T", "(if b c u) : U", "(if b a t) : T", "(if b cm c) : (maybe C)", "(if b c cm) : (maybe C)", "(if b tm cm) : (maybe T)", "(if b cm tm) : (maybe T)",
		"(if b c tm) : (maybe T)", "(if b null cm) : (maybe C)", "(if b cm null) : (maybe C)", "(if b null null) : null", "(if b null mc) : mc", "(if b mc null) : mc", "(if b cm mc) : (maybe C)", "(if b mc cm) : mc", "(if b qn q) : (seq nat)", "(if b q qs) : (seq int)", "(if b oc c) : oc", "(if b c oc) : C", "(if b oc t) : T", "(if b ln li) : (L nat)", "(if b fk (fn ((x int)) x)) : (fun (nat) nat)",
		"(if (= 1 2) (if b 1 n) (if b m 2)) : int", "(if b (if b n 1) 1) : nat")
	mistyped(t, api.ErrType, "(if 1 1 2)", "(if null 1 2)", "(if b 1 b)", "(if b null c)", "(if b c null)", "(if b c a)", "(if b qc qt)", "(if b li (make Nil (of bool)))", "(if b t cm)", "(if b cm t)", "(if b (if b null null) c)", "(if b w v)", "(if b (if b c a) t)")
	typed(t, "(seq 1) : (seq int)", "(seq n m) : (seq int)", "(seq n 1 m) : (seq int)", "(seq c t) : (seq T)", "(seq c t u) : (seq U)", "(seq null cm) : (seq (maybe C))", "(seq c tm) : (seq (maybe T))", "(seq mc) : (seq (maybe C))", "(seq qn qs) : (seq (seq int))", "(seq f) : (seq (fun (int) bool))", "(seq fk) : (seq (fun (int) int))",
		"(set 1 n) : (set int)", "(set b) : (set bool)", "(set c t) : (set T)", "(set null cm tm) : (set (maybe T))", "(set li ln) : (set (L int))", "(bag 1 1) : (bag int)", "(bag t c) : (bag T)", "(bag w w) : (bag (bits 3))",
		"(map (1 b)) : (map int bool)", "(map (n 1) (2 n)) : (map int int)", "(map (c null) (t cm)) : (map T (maybe C))", "(map (b f)) : (map bool (fun (int) bool))", "(map (mc qs)) : (map (maybe C) (seq int))")
	mistyped(t, api.ErrType, "(seq)", "(set)", "(bag)", "(map)", "(seq 1 b)", "(seq c null)", "(seq c a t)", "(set b 1)", "(bag null c)", "(map (1 b) (b b))", "(map (1 b) (2 1))",
		// What could not be told by a type.
		"(seq null)", "(set null null)", "(map (1 null))", "(map (null 1))", "(fn ((x int)) null)", "(seq (if b null null))", "(make Cons null (make Nil (of (maybe C))))", "(imap null int)", "(call two 1 null)",
		// What cannot be compared.
		"(set f)", "(set si)", "(bag z)", "(map (f 1))", "(map (si 1))", "(set (seq f))", "(bag (seq z))", "(set (fn ((x int)) x))", "(set (map (1 f)))")
}

// P8.2: what binds names.
func TestBinders(t *testing.T) {
	typed(t, "(let (x 1) x) : int", "(let (x n) x) : nat", "(let (x n) (+ x 1)) : int", "(let (n b) n) : bool", "(let (x null) x) : null", "(let (x x1) 1) : error 6", "(let (x 1) (let (x b) x)) : bool", "(let (x (let (x b) x)) x) : bool", "(let (y qs) (cut y 0 1)) : (seq int)",
		"(pick (x 0 n) (< x m) x) : int", "(pick (n 0 1) b (+ n 1)) : int", "(pick (x n m) b qs) : nats", "(pick (x 0 1) b (seq x)) : (seq int)",
		"(all (x 0 n) (< x 1)) : bool", "(some (x n 9) b) : bool", "(every (x s) (< x 1)) : bool", "(any (x sc) (= x null)) : bool", "(every (x sn) (= x n)) : bool", "(any (x (set qs)) (= x qn)) : bool",
		"(forall ((x int) (y nat)) (< x y)) : bool", "(exists ((x T)) (trigger x) (trigger (get tx x) (get ux x)) (= x c)) : bool", "(forall ((b int)) (trigger b) (= b 1)) : bool", "(forall ((x (fun (nat) bool))) (trigger 1 x) (app x 1)) : bool",
		"(fn () 1) : (fun () int)", "(fn ((x int)) (< x 1)) : (fun (int) bool)", "(fn ((x nat) (y (seq nat))) x) : (fun (nat (seq nat)) nat)", "(fn ((x int)) m) : (fun (int) small)", "(fn ((x C)) this) : (fun (C) C)", "(fn ((x int)) (fn ((y bool)) x)) : (fun (int) (fun (bool) int))", "(fn ((x int)) qs) : (fun (int) nats)",
		"(app f 1) : bool", "(app f n) : bool", "(app fk 1) : int", "(app fk n) : int", "(app ff) : (maybe C)", "(app fc oc) : T", "(app (fn ((x nat)) x) n) : int", "(app (fn ((x (maybe T))) mc) null) : (maybe C)", "(app (app (fn ((x int)) f) 1) 2) : bool")
	mistyped(t, api.ErrType, "(pick (x b 1) b 1)", "(pick (x 1 b) b 1)", "(pick (x 0 1) 1 x)", "(pick (x 0 1) x x)", "(all (x b 1) b)", "(all (x 0 c) b)", "(all (x 0 1) x)", "(some (x 0 1) 1)", "(some (x null 1) b)",
		"(every (x 1) b)", "(every (x q) b)", "(every (x g) b)", "(any (x h) b)", "(every (x s) x)", "(any (x s) 1)", "(every (x null) b)", "(forall ((x int)) x)", "(exists ((x int)) 1)", "(forall ((x bool)) (trigger (+ x 1)) x)",
		"(forall ((x nowhere)) b)", "(exists ((x (set f))) b)", "(forall ((x (maybe nat))) b)", "(fn ((x L)) 1)", "(fn ((x null)) 1)", "(fn ((x (seq 1))) 1)", "(fn ((x a)) 1)", "(fn ((x (L int int))) 1)",
		"(app 1)", "(app f)", "(app f 1 2)", "(app f b)", "(app ff 1)", "(app null)", "(app fc t)", "(app fc null)", "(app b b)")
	mistyped(t, api.ErrName, "(let (x 1) y)", "(+ (let (x 1) x) x)", "(pick (x x 1) b 1)", "(pick (x 0 x) b 1)", "(+ (pick (x 0 1) b x) x)", "(all (x x 1) b)", "(every (x x) b)", "(forall ((x int)) (trigger y) b)", "(app x)", "(app f x)", "(fn ((x int)) y)", "(= (fn ((x int)) x) x)")
}

// P8.2: data, codata and match.
func TestData(t *testing.T) {
	typed(t, "(make Nil (of int)) : (L int)", "(make Nil (of nat)) : (L int)", "(make Cons 1 li) : (L int)", "(make Cons n ln) : (L int)", "(make Cons n (make Nil (of int))) : (L int)", "(make Cons (of nat) 1 li) : (L int)", "(make Cons (of (maybe T)) c (make Nil (of tm1))) : error 8", "(make Cons (of (maybe T)) c (make Nil (of (maybe T)))) : (L (maybe T))", "(make Cons c (make Nil (of C))) : (L C)",
		"(make Pair 1 b) : (P int bool)", "(make Pair (of T (seq nat)) c q) : (P T (seq int))", "(make Flip 1 b) : (P bool int)", "(make Solo (of int bool) 1) : (P int bool)", "(make One) : E", "(make Two 1 e) : E", "(make Keys s) : (K int)", "(make Keys (of nat) s) : (K int)", "(make More 1 si) : (S int)", "(make Cons fk (make Nil (of (fun (int) int)))) : (L (fun (int) int))",
		"(is Nil li) : bool", "(is Cons le) : bool", "(is More si) : bool", "(is Solo pn) : bool",
		"(get head li) : int", "(get head ln) : int", "(get tail ln) : (L int)", "(get tail le) : (L int)", "(get fst p) : int", "(get snd p) : bool", "(get num e) : nat", "(get rest e) : E", "(get now si) : int", "(get next si) : (S int)", "(get w odd) : int", "(get ks k) : (set int)", "(get same qi) : int", "(get fst (make Pair qs n)) : (seq int)",
		"(match li (Nil () 0) (Cons (h t) h)) : int", "(match ln (Cons (h t) t)) : (L int)", "(match e (Two (n r) n)) : nat", "(match e (Two (x r) x) (One () 1)) : nat", "(match e (One () 1) (Two (x r) x)) : int", "(match p (Pair (i b) (= b (= i 1))) (Flip (b i) b) (Solo (x) (= x 1))) : bool", "(match si (More (x s) (match s (More (y r) (+ x y))))) : int", "(match le (Cons (h t) le)) : le",
		"(match e (One () c) (Two (x y) t)) : T", "(match e (One () null) (Two (x y) cm)) : (maybe C)", "(match e (One () null) (Two (x y) null)) : null", "(match odd (O2 (x) x)) : bool", "(match k (Keys (x) x)) : (set int)", "(match e (One () 1) (One () n)) : int", "(match (make Cons fk (make Nil (of (fun (int) int)))) (Cons (h t) (app h 1))) : int")
	mistyped(t, api.ErrType, "(make Nil)", "(make Nil (of int int))", "(make Nil (of nowhere))", "(make One (of int))", "(make One 1)", "(make Two 1)", "(make Two b e)", "(make Two 1 li)", "(make Cons 1)", "(make Cons b li)", "(make Cons 1 (make Nil))", "(make Cons (of bool) 1 li)", "(make Cons c (make Nil (of T)))", "(make Cons (of T) c (make Nil (of C)))", "(make Solo 1)", "(make Pair 1)", "(make Pair (of int) 1 1)", "(make Keys q)", "(make Keys (of bool) s)",
		"(is Nil e)", "(is One li)", "(is One 1)", "(is Nil null)", "(is More c)",
		"(get head e)", "(get num li)", "(get v odd)", "(get same qb)", "(get head 1)", "(get head null)", "(get head (seq li))", "(get x li)", "(get num c)", "(get fst f)",
		"(match 1 (One () 1))", "(match null (One () 1))", "(match c (Nil () 1))", "(match li (One () 1))", "(match e (Nil () 1))", "(match e (One (x) 1))", "(match e (Two (x) 1))", "(match e (Two (x y z) 1))", "(match e (One () 1) (Two (x y) b))", "(match e (One () null) (Two (x y) c))", "(match li (Nil () 0) (Cons (h t) t))", "(match e (Two (x y) (and x)))", "(match pn (Pair (x y) (not y)))",
		// Types that would be none.
		"(get ks (make Keys (of (fun () int)) (empty (set (fun () int)))))", "(let (k (make Keys (of int) (set 1))) (get ks (if b k 1)))")
	mistyped(t, api.ErrName, "(make Zero)", "(make L)", "(make id 1)", "(make Cons x li)", "(is Zero li)", "(is L li)", "(is Nil x)", "(get zero li)", "(get head x)", "(get L li)", "(match x (One () 1))", "(match e (One () x))", "(match e (Two (x y) zz))", "(+ (match e (Two (x y) x)) x)", "(match e (Zero () 1))", "(match e (E () 1))", "(match e (One () 1) (Nil () 1))", "(match e (One () 1) (Zero () 1))")
}

// P8.2: calls, with type variables that are told or found.
func TestCalls(t *testing.T) {
	typed(t, "(call id 3) : int", "(call id n) : int", "(call id b) : bool", "(call id null) : null", "(call id c) : C", "(call id mc) : (maybe C)", "(call id (of nat) 3) : nat", "(call id (of T) c) : T", "(call id (of (maybe T)) null) : (maybe T)", "(call id (of (seq nat)) q) : (seq nat)", "(call id (of mc) cm) : mc", "(call id (call id (of small) n)) : int",
		"(call two 1 b) : (P int bool)", "(call two qs n) : (P (seq int) int)", "(call two (of nat bool) 1 b) : (P nat bool)", "(call both 1 n) : int", "(call both (of T) c t) : T", "(call up 1 c) : nat", "(call up n null) : nat", "(call up m tm) : nat", "(call swap p) : (P bool int)", "(call swap (of nat nat) pn) : (P nat nat)", "(call swap (make Pair q c)) : (P C (seq int))",
		"(call lost (of bool) 1) : int", "(call mixed q 1 t) : (map nat int)", "(call mixed (of nat) q 1 t) : (map nat nat)", "(call mixed (of nat) q 1 c) : (map nat nat)", "(call none) : small", "(call gh 1) : nat",
		"(call pr 1) : bool", "(call pa cm) : bool", "(call pa (of (maybe T)) cm) : bool", "(call ts c) : bool", "(call lst m) : bool", "(call gst) : bool", "(prefix lst 1 2) : bool", "(prefix lst n n) : bool", "(prefix gst m) : bool", "(fuel 3 up n) : int", "(fuel 0 pr qs) : (seq int)", "(fuel 9 gh null) : null")
	mistyped(t, api.ErrType, "(call id)", "(call id 1 2)", "(call id (of int))", "(call id (of int bool) 1)", "(call id (of bool) 1)", "(call id (of nowhere) 1)", "(call id (of (set f)) 1)", "(call id (of a) 1)", "(call id (of null) null)",
		"(call two 1)", "(call both 1 b)", "(call both c t)", "(call both null cm)", "(call both cm null)", "(call both (of C) c t)", "(call up b c)", "(call up 1 u)", "(call up 1)", "(call up (of int) 1 c)", "(call swap li)", "(call swap 1)", "(call lost 1)", "(call mixed 1 1 t)", "(call mixed q b t)", "(call mixed (of bool) q 1 t)", "(call none 1)", "(call none (of int))",
		"(call pr b)", "(call ts t)", "(call ts null)", "(call lst null)", "(call gst 1)", "(prefix lst 1)", "(prefix lst b 1)", "(prefix lst 1 b)", "(prefix gst 1 1)", "(prefix gst null)")
	mistyped(t, api.ErrName, "(call nowhere)", "(call m 1)", "(call lm 1)", "(call ex)", "(call Nil)", "(call nat 1)", "(call cf)", "(call i)", "(call id x)", "(call two 1 x)", "(prefix pr 1 1)", "(prefix up 1 1 c)", "(prefix nowhere 1)", "(prefix lst x 1)", "(prefix lst 1 x)", "(fuel 1 lst 1)", "(fuel 1 ts 1)", "(fuel 1 m 1)", "(fuel 1 nowhere 1)", "(fuel 1 up x)")
}

// P8.2: a call's type variables are apart from those around it. Those that are
// found are of the bases of all arguments.
func TestCallsApart(t *testing.T) {
	isLet(t, "generic functions", forms(world+`(function f1 (tp a) ((x (seq a))) a (call id (at x 0))) (function f2 (tp a b) ((x a) (y b)) (P b a) (call two y x)) (function f3 (tp b a) ((x (P a b))) (P b a) (call swap x))
		(function f4 (tp a) ((x (L a))) (L a) (match x (Nil () (make Nil (of a))) (Cons (h t) (make Cons h (call f4 t))))) (function f5 (tp a) ((x a) (n int)) int (if (< n 1) 1 (call f5 (seq x) (- n 1)))) (function f6 (tp a) ((x a)) (fun (a) a) (fn ((y a)) (if (= x y) x (call id y))))
		(function f7 (tp a) ((x a)) (P a (seq a)) (call two (of a (seq a)) x (seq x))) (predicate f8 (tp L) ((x L)) (= x (call id x)))`))
	for _, c := range []string{
		"(function q (tp a) ((x a)) a (call id (seq x)))", "(function q (tp a b) ((x a) (y b)) a y)", "(function q (tp a) ((x a)) int x)", "(function q (tp a) ((x int)) a x)", "(function q (tp a b) ((x a) (y b)) a (call both x y))",
		"(function q (tp a) ((x a)) (set int) (let (s (set x)) (empty (set int))))", "(function q (tp a) ((x a)) int (let (s (map (x 1))) 1))", "(function q (tp a) ((x (L a))) (L a) (make Nil))",
	} {
		if got := checked(forms(world + c)); got != "q error 8" {
			t.Errorf("Check %s: %s", c, got)
		}
	}
}

// P8.2: bits.
func TestBits(t *testing.T) {
	typed(t, "(bits 1 0) : (bits 1)", "(bits 1 1) : (bits 1)", "(bits 3 7) : (bits 3)", "(bits 16 65535) : (bits 16)", "(band w w) : (bits 3)", "(bor w (bits 3 1)) : (bits 3)", "(bxor v v) : (bits 4)", "(badd (bits 4 1) v) : (bits 4)", "(bnum w) : int", "(bnum (bits 9 3)) : int")
	mistyped(t, api.ErrRange, "(bits 1 2)", "(bits 3 8)", "(bits 16 65536)", "(bits 2 1152921504606846976)", "(bnum (bits 4 16))", "(+ 1 (bits 1 2))")
	mistyped(t, api.ErrType, "(band w v)", "(bor w 1)", "(bxor 1 w)", "(bxor 1 1)", "(badd b b)", "(band null null)", "(bnum 1)", "(bnum q)", "(+ w w)", "(badd q q)")
}

// P8.2: seqs, sets, bags and maps.
func TestCollections(t *testing.T) {
	typed(t, "(empty (seq nat)) : (seq int)", "(empty (set b1)) : error 8", "(empty (bag C)) : (bag C)", "(empty (map nat (L nat))) : (map int (L int))", "(empty nats) : (seq int)", "(imap 1 int) : (imap int int)", "(imap n nat) : (imap int int)", "(imap fk (seq nat)) : (imap (seq int) (fun (int) int))",
		"(len q) : int", "(len qs) : int", "(at q 1) : int", "(at qn n) : int", "(at qs m) : int", "(at qc 0) : C", "(cat q qn) : (seq int)", "(cat qs qs) : (seq int)", "(cat qt qt) : (seq T)", "(cut q 0 n) : (seq int)", "(cut qs m i) : (seq int)", "(put q 0 n) : (seq int)", "(put qs 0 1) : (seq int)", "(put qt n c) : (seq T)", "(put h 1 b) : (map int bool)", "(put hn n i) : (map int int)", "(put zn 1 n) : (imap int int)", "(put (empty (map T (maybe C))) c null) : (map T (maybe C))",
		"(in 1 s) : bool", "(in n g) : bool", "(in i h) : bool", "(in c (set t)) : bool", "(in null sc) : bool", "(in c sc) : bool", "(join s sn) : (set int)", "(join g g) : (bag int)", "(join hn hn) : (map int int)", "(meet s sn) : (set int)", "(meet gn g) : (bag int)", "(less sn s) : (set int)", "(less g gn) : (bag int)", "(less h s) : (map int bool)", "(less hn sn) : (map int int)", "(less hc (set c)) : (map C C)",
		"(card s) : int", "(card g) : int", "(card h) : int", "(count 1 g) : int", "(count c (bag t)) : int", "(look h n) : bool", "(look hn 1) : int", "(look z 1) : bool", "(look zn m) : int", "(look hc oc) : C", "(keys h) : (set int)", "(keys hn) : (set int)", "(keys hc) : (set C)")
	mistyped(t, api.ErrType, "(empty int)", "(empty (imap int int))", "(empty (fun () int))", "(empty (L int))", "(empty nat)", "(empty C)", "(empty (maybe C))", "(empty seq)", "(empty (set (S int)))", "(empty null)", "(imap 1 nowhere)", "(imap 1 (fun () int))", "(imap 1 (S int))", "(imap null int)", "(imap 1 3x)",
		"(len s)", "(len h)", "(len 1)", "(len null)", "(len b)", "(at q b)", "(at s 1)", "(at h 1)", "(at 1 1)", "(at z 1)", "(cat q qc)", "(cat qt qc)", "(cat qc qt)", "(cat s s)", "(cat q 1)", "(cat 1 q)", "(cat 1 1)", "(cut q b 1)", "(cut q 1 b)", "(cut s 1 1)", "(put q b 1)", "(put q 1 b)", "(put qc 1 t)", "(put s 1 1)", "(put g 1 1)", "(put h b b)", "(put h 1 1)", "(put z b b)", "(put zn 1 b)", "(put li 1 1)",
		"(in b s)", "(in 1 q)", "(in 1 z)", "(in t (set c))", "(in s 1)", "(in b g)", "(in b h)", "(in 1 li)", "(join s g)", "(join q q)", "(join s (set b))", "(join h hn)", "(join z z)", "(join (set c) (set t))", "(meet h h)", "(meet q q)", "(meet s g)", "(meet 1 1)", "(less s g)", "(less h h)", "(less h sc)", "(less h g)", "(less s h)", "(less hc (set t))", "(less z s)", "(less 1 1)", "(less s sc)", "(less q q)",
		"(card q)", "(card z)", "(card 1)", "(count b g)", "(count 1 s)", "(count 1 q)", "(count g 1)", "(count t (bag c))", "(look h b)", "(look q 1)", "(look s 1)", "(look z b)", "(look hc t)", "(keys z)", "(keys s)", "(keys q)", "(keys 1)")
}

// P8.2: objects, and what speaks of the heap.
func TestObjects(t *testing.T) {
	typed(t, "(get x c) : nat", "(get o c) : (maybe C)", "(get d c) : Odd", "(get gx c) : (L nat)", "(get tx c) : int", "(get ux c) : nat", "(get ug c) : bool", "(get x cm) : nat", "(get x mc) : nat", "(get x oc) : nat", "(get x this) : nat", "(get tx t) : int", "(get ux t) : nat", "(get ux tm) : nat", "(get ug u) : bool", "(get o (get o c)) : (maybe C)",
		"(get uf c) : nat", "(get uf u) : nat", "(get cf c) : small", "(get cf oc) : small", "(get cp cm) : bool", "(get ct c) : bool", "(get tf c) : (seq nat)", "(get tf tm) : (seq nat)", "(get f (if true (let (x null) x) (if true null null))) : error 8",
		"(old n) : int", "(old qs) : (seq int)", "(old lab c) : C", "(old nowhere ln) : (L int)", "(fresh c) : bool", "(fresh t) : bool", "(fresh tm) : bool", "(fresh mc) : bool", "(fresh oc) : bool", "(fresh (old c)) : bool")
	mistyped(t, api.ErrType, "(get x t)", "(get tx u)", "(get bx c)", "(get x u)", "(get x a)", "(get cg c)", "(get cm c)", "(get cl c)", "(get cn c)", "(get tm c)", "(get x null)", "(get x 1)", "(get x (set c))", "(get uf 1)", "(get cf t)", "(fresh 1)", "(fresh null)", "(fresh sc)", "(fresh li)", "(fresh b)")
	mistyped(t, api.ErrName, "(get m c)", "(get C c)", "(get id c)", "(get nowhere c)", "(get x x)", "(old x)", "(old lab x)", "(fresh x)")
}
