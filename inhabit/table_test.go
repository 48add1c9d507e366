package inhabit_test

import (
	"strings"
	"testing"

	"plinth/api"
	"plinth/inhabit"
	"plinth/kind"
	"plinth/scope"
)

// P9.2: values of which data can be compared. In each row stands what D has in a
// field.
func TestEq(t *testing.T) {
	const more = `(data L (a) (eq a) (Nil) (Cons (head a) (tail (L a)))) (data Box (a) (MkBox (x a))) (data Pair (a b) (eq b) (Both (y b))) (data Ghost (a) (G1)) (data Fn () (Fn1 (f (fun () int)))) (data E () (E0) (E1 (n int) (e E)))
		(codata S (a) (More (now a) (next (S a)))) (codata Fin () (Fin1)) (class C () (field f (fun () int))) (trait R ()) (sub nat (n int) true 0) (sub nats (n (seq nat)) true (empty (seq int))) (sub fun1 (f (fun () int)) true (fn () 1)) (sub funs (f (map int fun1)) true (empty (map int fun1))) (sub le (l (L E)) true (make Nil (of E))) (sub lf (l (L fun1)) true (make Nil (of fun1)))
		(sub c1 (x c2) true 1) (sub c2 (x (seq c1)) true 1) (sub c3 (x (map int c1)) true 1) `
	for want, fields := range map[string][]string{
		"true":  {"int", "bool", "(bits 3)", "(maybe C)", "C", "R", "(seq int)", "(set (seq bool))", "(bag nat)", "(map int nats)", "nat", "nats", "le", "E", "D", "(seq D)", "(map D D)", "(L D)", "(L (L D))", "(L int)", "(Pair int bool)", "(Pair D nat)", "(Ghost int)", "(set D)", "(L (Ghost nat))", "(maybe R)", "(seq C)"},
		"false": {"(fun () int)", "(fun (int) D)", "(imap int int)", "(imap D D)", "(S int)", "Fin", "(seq (fun () int))", "(map int (imap int int))", "Fn", "(seq Fn)", "fun1", "funs", "lf", "(L Fn)", "(L (S int))", "(Box int)", "(L (Box int))", "(Pair fun1 int)", "(Pair int Fn)", "(Ghost Fn)", "(Ghost (fun () int))", "c1", "c2", "c3", "(seq c3)", "(set Fn)", "(map Fn int)"},
	} {
		for _, field := range fields {
			for _, s := range []string{
				"(data D () (D0) (D1 (v int) (d " + field + ") (w bool)))" + more, more + "(data D () (D1 (d " + field + ")) (D0))", "(data D () (D0) (D1 (d D2)))" + more + "(data D2 () (D3 (d D)) (D4 (f " + field + ")))",
				"(sub sub1 (x " + field + ") true 1) (data D () (D0) (D1 (d sub2))) " + more + "(sub sub2 (x (seq sub1)) true 1)",
			} {
				if got := said(inhabit.Eq(forms(s), "D")); got != want {
					t.Errorf("Eq of %s: %s, not %s", strings.ReplaceAll(s, more, " "), got, want)
				}
			}
			s := more + "(data D () (D0)) (sub s (x " + field + ") true 1)"
			if got := said(inhabit.Eq(forms(s), "s")); got != want && field != "(set D)" {
				t.Errorf("Eq of a subset type of %s: %s, not %s", field, got, want)
			}
		}
	}
	p := forms(more)
	for name, want := range map[string]string{"L": "true", "Box": "false", "Pair": "true", "Ghost": "true", "Fn": "false", "E": "true", "S": "false", "Fin": "false", "C": "false", "R": "false", "nat": "true", "nats": "true", "fun1": "false", "funs": "false", "le": "true", "lf": "false", "c1": "false", "c2": "false", "c3": "false"} {
		if got := said(inhabit.Eq(p, name)); got != want {
			t.Errorf("Eq %s: %s, not %s", name, got, want)
		}
	}
}

// P9.2: variables are comparable where eq says so, and data are taken so until one
// is not.
func TestEqCircles(t *testing.T) {
	for p, want := range map[string]string{
		"(data A () (A0) (A1 (b B))) (data B () (B0) (B1 (a A)))": "A 1 0 eq new, B 1 0 eq new", "(data A () (A0) (A1 (b B))) (data B () (B0) (B1 (a A)) (B2 (f (fun () int))))": "A 1 0 new, B 1 0 new", "(data A () (A0) (A1 (b B))) (data B () (B0) (B1 (g G))) (data G () (G0 (a A)) (G1 (f (fun () int))))": "A 1 0 new, B 1 0 new, G 1 0 new", "(data A () (A0) (A1 (b B) (f (imap int int)))) (data B () (B0) (B1 (n int)))": "A 1 0 new, B 1 0 eq new",
		"(data A () (A0) (A1 (s S))) (codata S () (S1 (a A)))": "A 1 0 new, S 2 0",
		"(data A (a b) (A0 (x a) (y b)))":                      "A 1 2", "(data A (a b) (eq a) (A0 (x a) (y b)))": "A 1 2", "(data A (a b) (eq b a) (A0 (x a) (y b)))": "A 1 2 eq", "(data A (a b) (eq b) (A0) (A1 (y b)))": "A 1 2 eq new", "(data A (a b) (eq b) (A0) (A1 (y (A b b))))": "A 1 2 eq new", "(data A (a b) (eq b) (A0) (A1 (y (A a b))))": "A 1 2 new", "(data A (a) (A0) (A1 (m (seq a))))": "A 1 1 new",
		"(sub s (d D) true (make D0)) (data D () (D0) (D1 (s s)))": "D 1 0 eq new, s 5 0 eq new", "(sub s (d D) true (make D0)) (data D () (D0) (D1 (s s) (t t))) (sub t (f (fun () D)) true (fn () (make D0)))": "D 1 0 new, s 5 0 new, t 5 0 new",
		"(class C () (field d D)) (data D () (D1 (c C)))": "C 3 0, D 1 0 eq", "(trait R ()) (data D () (D1 (c (maybe R))))": "D 1 0 eq new, R 4 0", "": "", "(function f () int)": "",
		"(codata Z (a b c d) (Z1)) (data a1 (a b c d) (eq a) (Y1 (x a))) (data Y (x) (Y2 (m (imap int x)) (n int)) (Y3 (c (seq x))))": "Y 1 1 new, Z 2 4, a1 1 4 eq",
	} {
		if got := rows(inhabit.Table(forms(p))); got != want {
			t.Errorf("Table %s: %s, not %s", p, got, want)
		}
	}
}

// P9.2: which data are ready. In each row stands what D has in a field.
func TestReady(t *testing.T) {
	for want, fields := range map[string][]string{
		"true":  {"int", "bool", "(bits 3)", "(maybe C)", "(seq V)", "(set int)", "(bag C)", "(map int (fun () C))", "nat", "fun1", "T", "Obj", "Two", "(L int)", "(L V)", "(L (fun () C))", "Ims", "(imap C int)", "(imap V (imap int T))", "(seq D)", "(L D)", "(seq (Box int))", "(Im C)", "(imap int fun1)", "(Three C C)"},
		"false": {"C", "R", "(fun () int)", "(S int)", "Fin", "V", "Non", "(Box int)", "(Box (Box T))", "(Pair int bool)", "Held", "(Non2 int)", "(imap int C)", "(imap int V)", "(imap int (Box int))", "D", "(Box D)", "(imap int D)", "(imap int (imap int (S int)))"},
	} {
		for _, field := range fields {
			for _, s := range []string{
				"(data D () (D0 (d D)) (D1 (v int) (d " + field + ") (w bool)))" + ready, ready + "(data D () (D1 (d " + field + ")) (D0 (c C)))", "(data D () (D1 (d D2)))" + ready + "(data D2 () (D3 (d D)) (D4 (d " + field + ")))",
				"(data D (a) (D1 (v nat) (d " + strings.ReplaceAll(field, "D", "(D a)") + ")))" + ready,
			} {
				if got := said(inhabit.Ready(forms(s), "D")); got != want {
					t.Errorf("Ready of %s: %s, not %s", strings.ReplaceAll(s, ready, " "), got, want)
				}
			}
		}
	}
	p := forms(ready + "(data A () (A1 (s s1))) (sub s1 (x s1) true 1) (data B (a) (B1 (x a))) (data B2 (a) (B3 (m (imap int a)))) (data B4 (a) (eq a) (B5 (m (imap a (seq a)))))")
	for name, want := range map[string]string{"T": "true", "L": "true", "Opt": "true", "Box": "false", "Pair": "false", "Late": "true", "Three": "true", "Held": "false", "Non": "false", "V": "false", "S": "false", "Fin": "false", "C": "false", "R": "false", "nat": "true", "fun1": "true", "obj": "true", "st": "true", "A": "false", "s1": "true", "B": "false", "B2": "false", "B4": "true"} {
		if got := said(inhabit.Ready(p, name)); got != want {
			t.Errorf("Ready %s: %s, not %s", name, got, want)
		}
	}
}

// R1: type variables hide what is declared by their names, as in other layers.
func TestVariablesHide(t *testing.T) {
	p := forms(`(data E () (E0 (d (D int))) (E1)) (data D (E) (Dn) (Dx (x E))) (data N () (N0) (N1 (d (M int)))) (data M (N) (M0) (M1 (f (fun (N) int)))) (data R (E) (R1 (x E)))
		(data Q (Q) (Q1 (f (fun (Q) int))) (Q2)) (data V () (V1 (v V))) (data W (V) (W1 (x V))) (codata K (K) (K1 (x K)))`)
	if got := checked(p); got != "V error 3" {
		t.Errorf("Check: %s", got)
	}
	if got := named(inhabit.Founded(p)); got != "D E M N Q R W" {
		t.Errorf("Founded: %s", got)
	}
	for of, want := range map[string]string{"(D bool)": "3", "(W bool)": "2", "(K bool)": "2", "(M bool)": "-1", "E": "-1"} {
		if got := counted(inhabit.Count(p, form(of))); got != want {
			t.Errorf("Count %s: %s, not %s", of, got, want)
		}
	}
	if got := rows(inhabit.Table(p)); got != "D 1 1 new, E 1 0 new, K 2 1, M 1 1 new, N 1 0 new, Q 1 1 new, R 1 1, V 1 0 eq, W 1 1" {
		t.Errorf("Table: %s", got)
	}
}

// P9.2: only names of types are known.
func TestNames(t *testing.T) {
	p := forms(ready)
	for _, name := range []string{"", "nowhere", "int", "bool", "seq", "a", "up", "Leaf", "C.x", "null", "(maybe C)", "T ", "x"} {
		if got := said(inhabit.Eq(p, name)) + " " + said(inhabit.Ready(p, name)); got != "error 6 error 6" {
			t.Errorf("Eq, Ready %q: %s", name, got)
		}
	}
}

// P9.2: the table has the rows that Eq and Ready tell of, and all else as scope has
// it.
func TestTable(t *testing.T) {
	for _, s := range []string{ready, sized, tools + "(data D () (D0))"} {
		p := forms(s)
		table, err := inhabit.Table(p)
		if err != api.OK || len(table) != len(scope.Table(p)) {
			t.Fatalf("Table: %d rows, error %d", len(table), err)
		}
		for i, want := range scope.Table(p) {
			var wrong [2]api.Errno
			want.Eq, wrong[0] = inhabit.Eq(p, want.Name)
			want.New, wrong[1] = inhabit.Ready(p, want.Name)
			if table[i] != want || wrong != [2]api.Errno{} {
				t.Errorf("Table: %v, not %v", table[i], want)
			}
		}
		if kind.Check(form("(seq int)"), table) != api.OK {
			t.Error("Table: no table")
		}
	}
}

// R5, R7: arguments are not changed, and results are new memory.
func TestArgumentsStay(t *testing.T) {
	p := forms(ready)
	before := cloned(p)
	of := form("(imap nat (Three (L int) nat))")
	same := cloned([]api.Form{of})[0]
	for range 2 {
		inhabit.Check(p)
		inhabit.Count(p, of)
		inhabit.Eq(p, "L")
		inhabit.Ready(p, "L")
		if got := told(inhabit.Witness(p, of)); got != "(imap (make Th1 (of (L int) nat) (make Nil (of int)) 3) nat)" {
			t.Errorf("Witness: %s", got)
		}
		names, _ := inhabit.Founded(p)
		table, _ := inhabit.Table(p)
		if names[0] != "Box" || table[0].Name != "Box" {
			t.Errorf("Founded, Table: %s, %s", names[0], table[0].Name)
		}
		names[0], table[0].Name = "x", "x"
	}
	if !identical(list(p...), list(before...)) || !identical(of, same) {
		t.Error("arguments are changed")
	}
}
