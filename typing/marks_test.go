package typing_test

import (
	"slices"
	"strconv"
	"strings"
	"testing"

	"plinth/api"
	"plinth/reader"
	"plinth/typing"
)

// stripped takes ($ T E) out of a form, which stands for E, and tells the paths
// of these E's, with T, from the front.
func stripped(f api.Form, path []int) (api.Form, []typing.Mark) {
	if reader.Head(f) == "$" {
		inner, marks := stripped(f.Kids[2], path)
		return inner, append([]typing.Mark{{Path: slices.Clone(path), Type: f.Kids[1]}}, marks...)
	}
	var marks []typing.Mark
	var kids []api.Form
	for i, kid := range f.Kids {
		k, more := stripped(kid, append(slices.Clone(path), i))
		kids, marks = append(kids, k), append(marks, more...)
	}
	f.Kids = kids
	return f, marks
}

// marksText are marks as a text or, where there is an error, its number.
func marksText(marks []typing.Mark, err api.Errno) string {
	var l []string
	for _, m := range marks {
		s := ""
		for _, n := range m.Path {
			s += strconv.Itoa(n) + "."
		}
		l = append(l, s+" "+reader.Write(m.Type))
	}
	if err != api.OK {
		l = append(l, failed(err))
	}
	return strings.Join(l, ", ")
}

// P8.2: Marks are the places where a value flows into a subset type. In these
// declarations ($ T E) stands at them.
func TestMarks(t *testing.T) {
	for _, c := range []string{
		"(function q () int 1)", "(function q () nat ($ nat 1))", "(function q ((n nat)) nat n)", "(function q ((n small)) nat ($ nat n))", "(function q ((n nat)) small ($ small n))", "(function q ((n nat)) int n)", "(ghost (function q () nat ($ nat 1)))", "(function q ((l (L int))) (L nat) ($ (L nat) l))", "(function q () (seq nat) ($ (seq nat) (seq 1 2)))", "(function q () nats ($ nats (empty nats)))", "(function q ((s nats)) (seq nat) ($ (seq nat) s))", "(function q () (fun (nat) int) ($ (fun (nat) int) (fn ((x int)) x)))", "(function q () (fun (nat) int) (fn ((x nat)) (neg x)))", "(function q () mc ($ mc null))", "(function q ((c C)) oc ($ oc c))", "(function q () (maybe C) null)",
		"(function q ((b bool) (n nat)) nat (if b n 1))", "(function q ((b bool) (n nat)) nat ($ nat (if b 1 n)))", "(function q ((n nat)) nat (let (x n) x))", "(function q ((n nat)) nat ($ nat (old n)))", "(function q ((n nat)) nat ($ nat (+ n 1)))", "(function q ((e E)) nat (match e (Two (x y) x)))", "(function q ((e E)) nat (get num e))", "(function q () nat ($ nat (call none)))", "(function q () small (call none))", "(function q () nat (call up ($ nat 1) null))",
		"(function q (tp a) ((x a)) nat (call q (of a) x))", "(function q ((n nat)) int (call up n null))", "(function q ((m small)) int (call up ($ nat m) null))", "(function q () int (call up (call up ($ nat 2) null) null))", "(function q () nat (call id (of nat) ($ nat 1)))", "(function q () int (call id 1))", "(function q ((n nat)) nat ($ nat (call id n)))", "(function q () (P nat bool) (call two (of nat bool) ($ nat 1) true))", "(function q () (P nat bool) ($ (P nat bool) (call two 1 true)))", "(function q ((s (seq int)) (c T)) (map nat int) (call mixed s ($ nat 1) c))", "(function q ((s (seq int)) (c T)) (map nat nat) (call mixed (of nat) ($ (seq nat) s) ($ nat 1) c))", "(function q ((s (seq nat)) (c T)) (map nat nat) ($ (map nat nat) (call mixed s ($ nat 1) c)))",
		"(function q () E (make Two ($ nat 1) (make One)))", "(function q () (L int) (make Cons 1 (make Nil (of nat))))", "(function q () (L nat) ($ (L nat) (make Cons (of nat) ($ nat 1) ($ (L nat) (make Nil (of nat))))))", "(function q ((l (L nat))) (L int) (make Cons (of nat) ($ nat 1) l))", "(function q ((f (fun (nat) nat))) nat ($ nat (app f 1)))", "(function q ((x int)) bool (call pr ($ nat x)))", "(function q ((x int)) bool (prefix lst x ($ nat x)))", "(function q ((x nat)) bool (prefix lst x x))", "(function q ((x int)) (seq bool) (seq (call lst ($ nat x)) (call pa (of nat) ($ nat x)) (call pa x)))", "(function q () (seq int) (cat (seq 1) (put (seq (call up ($ nat 1) null)) 0 1)))",
		"(function q ((x int) (n nat)) nat (requires (call pr ($ nat x))) (ensures (call pr result)) (ensures (call pr ($ nat (+ result 1)))) (decreases (call gh ($ nat x)) n) (by (set result ($ nat x)) (var y nat ($ nat x)) (set result y)) n)", "(predicate q ((x int)) (ensures (call pr ($ nat x))) (call pr ($ nat 2)))", "(twostate q ((x int)) (old (call pr ($ nat x))))", "(least q ((x int)) (and (call pr ($ nat x)) (call q x)))", "(greatest q ((x nat)) (prefix q 1 ($ nat 2)))",
		"(sub q (x nat) (call pr ($ nat (+ x 1))) 1)", "(sub q (x int) (call pr ($ nat x)) (call up ($ nat 1) null))", "(data q () (Q3 (x nat)))", "(codata q () (Q3 (x nat) (y q)))",
		"(function q ((s (set nat))) bool (every (x s) (call pr ($ nat x))))", "(function q () bool (forall ((x nat) (y int)) (trigger (call pr ($ nat y))) (and (call pr x) (call pr ($ nat y)))))", "(function q () bool (all (x 0 9) (call pr ($ nat x))))", "(function q () int (pick (x (call up ($ nat 0) null) 9) (call pr ($ nat x)) (call gh ($ nat x))))", "(function q () (map nat nat) ($ (map nat nat) (map ((call gh ($ nat 1)) 2) (3 (call gh ($ nat 4))))))", "(function q () (imap nat nat) ($ (imap nat nat) (imap (call gh ($ nat 1)) nat)))", "(function q () int (fuel 1 up (call gh ($ nat 1))))",
		"(method q ((i int) (n nat)) ((r nat) (m small) (k (seq nat))) (requires (call pr ($ nat i))) (ensures (call pr ($ nat m))) (body (set r ($ nat i)) (set r n) (set r ($ nat m)) (set m ($ small r)) (var x nat) (var y nat ($ nat i)) (var z (seq int) k) (var w (L nat) ($ (L nat) (make Nil (of int)))) (set k ($ (seq nat) z)) (set k k)))",
		"(method q ((i int) (c C)) ((r nat) (z int) (m small) (o (maybe C)) (co C) (f oc)) (body (call (r z) m ($ nat i) c) (call (($ small m) z) m r c) (call (z ($ nat r)) m ($ nat m) c) (call (z ($ small m)) m ($ nat 1) c) (send (r co) c cm ($ nat 1) c) (send (($ small m) o) c cm r c) (send (r ($ oc f)) c cm r c) (send (($ nat r)) c tm ($ nat z)) (call (($ nat r)) ex) (call () lm ($ nat i)) (call () lm r)))",
		"(method q ((i int) (c C) (n nat)) ((o C) (f oc)) (body (store c x ($ nat i)) (store c x n) (store c tx n) (store c gx ($ (L nat) (make Nil (of nat)))) (new o C (x ($ nat i)) (tx i) (ux n) (gx ($ (L nat) (make Nil (of nat))))) (new f C) (each (x 0 i) (store c ux ($ nat x))) (each (x 0 (call gh ($ nat 1))) (store c tx x)) (lemma (x 0 i) (requires (call pr ($ nat x))) lm ($ nat x))))",
		"(method q ((i int)) ((n nat)) (modifies) (decreases (call gh ($ nat i))) (body (choose n 0 9 (call pr ($ nat i))) (if (call pr ($ nat i)) ((set n ($ nat 1))) ((set n ($ nat 2)))) (while (call pr ($ nat i)) ((invariant (call pr ($ nat i))) (decreases (call gh ($ nat 1)))) (set n ($ nat i))) (case (make Two ($ nat 1) (make One)) (One () (set n ($ nat 1))) (Two (x y) (set n x))) (assert (call pr ($ nat i)) (by (set n ($ nat 1)))) (assume (call pr ($ nat i))) (expect (call pr n)) (label l (set n ($ nat i))) (calc (call pr ($ nat i)) (= (call pr ($ nat 1)) (by (set n ($ nat 1))))) (ghost (set n ($ nat 1))) (block (block (set n ($ nat 1))))))",
		"(lemma q ((x int)) ((n nat)) (ensures (call pr ($ nat x))) (body (set n ($ nat x))))", "(extern q ((x int)) ((n nat)) (ensures (call pr ($ nat x))) (requires (call pr ($ nat x))))", "(ghost (method q ((x int)) ((n nat)) (body (set n ($ nat x)))))",
		"(class q (T) (field a nat) (function uf () nat ($ nat 1)) (ghost (method g () ((r nat)) (body (set r ($ nat 1)) (set r (get a this)) (store this a ($ nat 2))))))", "(trait q (T) (field a nat) (function uf () nat ($ nat (get tx this))) (predicate p ((x int)) (call pr ($ nat x))))",
		"(function q (tp a) ((x a) (n int)) (L a) (requires (call pr ($ nat n))) (make Cons x (make Nil (of a))))", "(function q (tp a) ((x a) (n int)) (P nat a) ($ (P nat a) (make Pair n x)))", "(function q (tp a) ((x (P nat a)) (n int)) (P nat a) ($ (P nat a) (make Pair (of nat a) ($ nat n) (get snd x))))", "(function q (tp a) ((x (P nat a))) (P nat a) x)",
	} {
		decl, want := stripped(form(c), nil)
		p := append(forms(world), decl)
		isLet(t, c, p)
		if got := marksText(typing.Marks(p, "q")); got != marksText(want, api.OK) {
			t.Errorf("Marks of %s: %s, not %s", c, got, marksText(want, api.OK))
		}
		if head := reader.Head(decl); head == "class" || head == "trait" {
			marksOfMembers(t, p, decl, want)
		}
	}
}

// marksOfMembers fails unless the members of a class or trait have its marks,
// each one in itself.
func marksOfMembers(t *testing.T, p []api.Form, class api.Form, whole []typing.Mark) {
	t.Helper()
	for i, m := range class.Kids[3:] {
		if reader.Head(m) == "ghost" {
			m = m.Kids[1]
		}
		var want []typing.Mark
		for _, mark := range whole {
			if mark.Path[0] == i+3 {
				want = append(want, typing.Mark{Path: mark.Path[1:], Type: mark.Type})
			}
		}
		if got := marksText(typing.Marks(p, "q."+m.Kids[1].Text)); got != marksText(want, api.OK) {
			t.Errorf("Marks of q.%s: %s, not %s", m.Kids[1].Text, got, marksText(want, api.OK))
		}
	}
}

// P8.2: Marks knows declarations and members. What is not well typed has none.
func TestMarksErrors(t *testing.T) {
	p := forms(world)
	for name, want := range map[string]string{
		"L": "", "S": "", "nat": "", "U": "", "C.x": "", "C.cg": "", "T.tf": "4. (seq nat)", "nowhere": "error 6", "": "error 6", "Nil": "error 6", "C.tf": "error 6", "C.nowhere": "error 6", "L.head": "error 6", "x": "error 6",
	} {
		if got := marksText(typing.Marks(p, name)); got != want {
			t.Errorf("Marks of %q: %s, not %s", name, got, want)
		}
	}
	for decl, want := range map[string]string{"(function q () nat true)": "error 8", "(function q () nat (call up 1 (bits 1 2)))": "error 5", "(function q () nat x)": "error 1", "(class q (U) (function g () nat 1))": "error 8"} {
		if got := marksText(typing.Marks(append(p, form(decl)), "q")); got != want {
			t.Errorf("Marks of %s: %s, not %s", decl, got, want)
		}
	}
}

// P8.2: Locals are params, results and the vars of a body, in order.
func TestLocals(t *testing.T) {
	p := append(forms(world), forms(`(method q ((x int) (c C)) ((r nat)) (requires (all (i 0 1) (let (j 1) true))) (body (var a int) (var b nat (let (d 1) d)) (if true ((var a bool) (var e (seq nat))) ((var f int))) (while true () (var g int) (block (var x bool)))
		(case (make One) (One () (var h int)) (Two (i j) (var k int))) (assert true (by (var l int))) (calc 1 (= 1 (by (var m int)))) (label lab (var n int)) (ghost (var o int) (set r (let (var1 1) var1))) (var a int) (each (z 0 1) (store c x z)) (lemma (z 0 1) (requires true) lm z) (choose a 0 1 true)))
		(ghost (method g ((x int)) ((y bool)) (body (ghost (var z (fun (int) int)))))) (class K1 () (field v nat) (method m ((x K1)) ((y (maybe K1))) (body (var z nat))) (ghost (predicate p ((y bool)) true)) (lemma l () () (body (var w int))))
		(function fb (tp a) ((x (seq a))) (seq a) (by (var v int 1) (set result x)) x) (extern e ((a (L int))) ((b E)) (ensures (let (c 1) true))) `)...)
	isLet(t, "a program", p)
	for name, want := range map[string]string{
		"q": "x int c C r nat a int b nat a bool e (seq nat) f int g int x bool h int k int l int m int n int o int a int", "g": "x int y bool z (fun (int) int)", "K1.m": "x K1 y (maybe K1) z nat", "K1.p": "y bool", "K1.l": "w int", "K1.v": "", "K1": "", "fb": "x (seq a)", "e": "a (L int) b E",
		"id": "x a", "pr": "x nat", "lst": "x nat", "gst": "", "nat": "n int", "oc": "c C", "L": "", "S": "", "T": "", "ts": "c C", "C.cm": "i nat j T r nat s C", "C.cf": "", "nowhere": "error 6", "Nil": "error 6", "C.tm": "error 6", "T.tm": "i nat r int", "": "error 6", "int": "error 6", "K1.q": "error 6",
	} {
		if got := named(typing.Locals(p, name)); got != want {
			t.Errorf("Locals of %q: %s, not %s", name, got, want)
		}
	}
	// What they have is asked of scope alone.
	if got := named(typing.Locals(forms("(function f ((x int)) int true)"), "f")); got != "x int" {
		t.Errorf("Locals of what is not well typed: %s", got)
	}
}
