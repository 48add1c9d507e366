package inhabit_test

import (
	"strconv"
	"strings"
	"testing"

	"plinth/api"
	"plinth/inhabit"
	"plinth/reader"
	"plinth/typing"
)

// ready has data that are ready, and others.
const ready = `(data T () (Leaf) (Node (l T) (r T))) (data L (a) (Nil) (Cons (head a) (tail (L a)))) (data Opt (a) (Yes (x a)) (No)) (data Box (a) (MkBox (x a))) (data Pair (a b) (Both (x a) (y b)))
	(data One () (O1)) (data Late () (La1 (o One))) (data Later () (Lb1 (o Late))) (data Far () (F1 (t Later)) (F2 (l Late)) (F3 (o Late)) (F4 (f Far))) (data Two () (Tw1 (o Two)) (Tw2 (x int) (b bool)) (Tw3))
	(data Three (a b) (Th1 (x a) (y b)) (Th2 (x a)) (Th3 (l Late))) (data Rec (a b) (R1 (r (Rec b a)) (x a)) (R2 (r (L (Rec a b))) (y b)) (R3 (l Late))) (data Im (a) (Im1 (m (imap int a))) (Im2 (l Later))) (data Ims () (Ims1 (m (imap T Later))))
	(data Wrap (a) (W1 (p (Pair a a))) (W2 (o (Opt a)))) (data Held () (H1 (b (Box int)))) (data Obj () (Ob1 (c C)) (Ob2 (m (maybe C)) (n nat))) (data Non () (N1 (c C)) (N2 (f (fun () int))) (N3 (s (S int)))) (data V () (V1 (v V))) (data Non2 (a) (No2 (x a) (n Non)))
	(codata S (a) (More (now a) (next (S a)))) (codata Fin () (Fin1)) (class C () (field x int)) (trait R ()) (sub nat (n int) (<= 0 n) 3) (sub big (n nat) (< 9 n) (+ 9 (call up 1))) (sub ls (l (L big)) true (make Cons 1 (make Nil (of nat)))) (sub fun1 (f (fun (int) int)) true (fn ((x int)) x)) (sub obj (c C) true c) (sub st (s (S int)) true (call ones)) (sub bad (n int) false (div 1 0))
	(function up ((x int)) int (+ x 1)) (function ones () (S int) (make More 1 (call ones))) `

// witnesses are those of types of what ready declares.
var witnesses = map[string]string{
	"int": "0", "bool": "false", "(bits 1)": "(bits 1 0)", "(bits 16)": "(bits 16 0)", "(maybe C)": "null", "(maybe R)": "null",
	"(seq int)": "(empty (seq int))", "(set nat)": "(empty (set nat))", "(bag (seq big))": "(empty (bag (seq big)))", "(map int (fun () C))": "(empty (map int (fun () C)))", "(seq C)": "(empty (seq C))", "(seq V)": "(empty (seq V))", "(set (maybe C))": "(empty (set (maybe C)))", "(seq (S Non))": "(empty (seq (S Non)))", "(seq (Box int))": "(empty (seq (Box int)))",
	"(imap int bool)": "(imap false int)", "(imap C nat)": "(imap 3 C)", "(imap nat (imap bool T))": "(imap (imap (make Leaf) bool) nat)", "(imap V (seq V))": "(imap (empty (seq V)) V)", "(imap int fun1)": "(imap (fn ((x int)) x) int)",
	// An imap is ready always: its value need not be so by its name alone.
	"(imap int (Box int))": "(imap (make MkBox (of int) 0) int)", "(imap nat (Pair int (seq C)))": "(imap (make Both (of int (seq C)) 0 (empty (seq C))) nat)", "(imap T (Box (Box (maybe R))))": "(imap (make MkBox (of (Box (maybe R))) (make MkBox (of (maybe R)) null)) T)", "(imap int (imap bool (Box T)))": "(imap (imap (make MkBox (of T) (make Leaf)) bool) int)", "(imap int (Box (imap int (Box nat))))": "(imap (make MkBox (of (imap int (Box nat))) (imap (make MkBox (of nat) 3) int)) int)", "(imap int Held)": "(imap (make H1 (make MkBox (of int) 0)) int)", "(imap int (L (Box C)))": "(imap (make Nil (of (Box C))) int)", "(imap int (Opt (Box C)))": "(imap (make No (of (Box C))) int)", "(imap int (Wrap (Box obj)))": "(imap (make W2 (of (Box obj)) (make No (of (Box obj)))) int)", "(imap int (Box (fun () int)))": "error 3", "(imap int (Box (Box C)))": "error 3", "(imap int (Pair int V))": "error 3", "(imap int (Box (S int)))": "error 3", "(imap int (Non2 int))": "error 3", "(imap int Fin)": "error 3", "(imap bool (imap int R))": "error 3",
	"nat": "3", "big": "(+ 9 (call up 1))", "ls": "(make Cons 1 (make Nil (of nat)))", "fun1": "(fn ((x int)) x)", "obj": "c", "st": "(call ones)", "bad": "(div 1 0)",
	"T": "(make Leaf)", "(L int)": "(make Nil (of int))", "(L (fun () C))": "(make Nil (of (fun () C)))", "(L V)": "(make Nil (of V))", "(L (L nat))": "(make Nil (of (L nat)))", "One": "(make O1)", "Late": "(make La1 (make O1))", "Later": "(make Lb1 (make La1 (make O1)))", "Far": "(make F2 (make La1 (make O1)))", "Two": "(make Tw2 0 false)",
	// The variables stand for what is put in.
	"(Opt int)": "(make Yes (of int) 0)", "(Opt nat)": "(make Yes (of nat) 3)", "(Opt C)": "(make No (of C))", "(Opt One)": "(make No (of One))", "(Opt (Opt int))": "(make No (of (Opt int)))", "(Opt (seq C))": "(make Yes (of (seq C)) (empty (seq C)))", "(Opt (fun () int))": "(make No (of (fun () int)))", "(Opt (maybe C))": "(make Yes (of (maybe C)) null)", "(Opt (Box int))": "(make No (of (Box int)))", "(Opt obj)": "(make Yes (of obj) c)",
	"(Three int bool)": "(make Th1 (of int bool) 0 false)", "(Three nat C)": "(make Th2 (of nat C) 3)", "(Three C int)": "(make Th3 (of C int) (make La1 (make O1)))", "(Three One int)": "(make Th1 (of One int) (make O1) 0)", "(Three One Late)": "(make Th2 (of One Late) (make O1))", "(Three Late Later)": "(make Th2 (of Late Later) (make La1 (make O1)))", "(Three Later Late)": "(make Th3 (of Later Late) (make La1 (make O1)))",
	"(Rec int int)": "(make R2 (of int int) (make Nil (of (Rec int int))) 0)", "(Rec C int)": "(make R2 (of C int) (make Nil (of (Rec C int))) 0)", "(Rec int C)": "(make R1 (of int C) (make R2 (of C int) (make Nil (of (Rec C int))) 0) 0)", "(Rec C R)": "(make R3 (of C R) (make La1 (make O1)))", "(Im int)": "(make Im1 (of int) (imap 0 int))", "(Im (L T))": "(make Im1 (of (L T)) (imap (make Nil (of T)) int))", "(Im C)": "(make Im2 (of C) (make Lb1 (make La1 (make O1))))", "Ims": "(make Ims1 (imap (make Lb1 (make La1 (make O1))) T))",
	"(Wrap C)": "(make W2 (of C) (make No (of C)))", "(Wrap int)": "(make W1 (of int) (make Both (of int int) 0 0))", "Obj": "(make Ob2 null 3)",
	// What is not ready.
	"C": "error 3", "R": "error 3", "(fun () int)": "error 3", "(fun (int) T)": "error 3", "(S int)": "error 3", "Fin": "error 3", "V": "error 3", "Non": "error 3", "(Non2 int)": "error 3", "(Box int)": "error 3", "(Box T)": "error 3", "(Pair int bool)": "error 3", "Held": "error 3", "(imap int C)": "error 3", "(imap int (fun () int))": "error 3", "(imap int (imap int V))": "error 3", "(imap int (S int))": "error 3",
}

// P9.2: the witness of a type.
func TestWitness(t *testing.T) {
	p := forms(ready)
	for s, want := range witnesses {
		if got := told(inhabit.Witness(p, form(s))); got != want {
			t.Errorf("Witness %s: %s, not %s", s, got, want)
		}
	}
}

// P9.3: a witness has a type that fits, but where it speaks of what is not in
// sight.
func TestWitnessFits(t *testing.T) {
	p := forms(ready)
	for s, want := range witnesses {
		w, err := inhabit.Witness(p, form(s))
		if err != api.OK || strings.Contains(want, "c") && strings.Contains(s, "obj") {
			continue
		}
		of, err := typing.Type(p, nil, "", w)
		if fits, _ := typing.Fits(p, of, form(s)); err != api.OK || !fits {
			t.Errorf("Witness %s: %s is of %s", s, want, told(of, err))
		}
	}
}

// P9.2: rounds look at all data with what the round ahead told.
func TestWitnessRounds(t *testing.T) {
	for _, c := range []struct{ p, of, want string }{
		{"(data A () (A1 (b B)) (A2)) (data B () (B1 (a A)))", "B", "(make B1 (make A2))"}, {"(data A () (A1 (b B)) (A2 (x X))) (data B () (B1)) (data X () (X1))", "A", "(make A1 (make B1))"}, {"(data B () (B1)) (data A () (A1 (b B)) (A2 (x int)))", "A", "(make A2 0)"}, {"(data A () (A1 (a A)) (A2 (b B)) (A3 (x X))) (data X () (X1)) (data B () (B1 (x X)))", "A", "(make A3 (make X1))"},
		{"(sub s (u U) true (make U1 0)) (data U () (U1 (s s))) (data D () (D1 (u U)) (D2 (e E))) (data E () (E0))", "D", "(make D2 (make E0))"},
		{"(data A () (A1 (s s)) (A2)) (sub s (a A) true (make A2))", "A", "(make A1 (make A2))"}, {"(sub s (x s) true 1) (data A () (A1 (s s)))", "A", "error 3"}, {"(sub s (a A) true (make A1 0)) (data A () (A1 (s s) (i int)))", "A", "error 3"}, {"(sub s (a A) true (make A2 (make MkBox 1))) (data A () (A1 (s s) (i int)) (A2 (b (Box int)))) (data Box (a) (MkBox (x a)))", "A", "(make A1 (make A2 (make MkBox 1)) 0)"},
		{"(data A () (A1 (m (imap int A))) (A2 (n int) (m (imap A int))))", "A", "(make A2 0 (imap 0 A))"}, {"(data A () (A1 (m (imap int A))))", "A", "error 3"}, {"(data A () (A1 (s (seq A)) (m (map int A)) (y int)))", "A", "(make A1 (empty (seq A)) (empty (map int A)) 0)"},
		{"(data A () (A1 (l (L A)))) (data L (a) (Nil) (Cons (x a) (y (L a))))", "A", "(make A1 (make Nil (of A)))"}, {"(data G (a) (G1 (g (G (seq a)))) (G2 (x a)) (G3 (b B))) (data B () (B1))", "(G (L int))", "error 6"}, {"(data G (a) (G1 (g (G (seq a)))) (G2 (x a)) (G3 (b B))) (data B () (B1))", "(G (G int))", "(make G1 (of (G int)) (make G2 (of (seq (G int))) (empty (seq (G int)))))"}, {"(data G (a) (G1 (g (G (seq a)))) (G2 (x a)) (G3 (b B))) (data B () (B1))", "(G B)", "(make G1 (of B) (make G2 (of (seq B)) (empty (seq B))))"},
	} {
		if got := told(inhabit.Witness(forms(c.p), form(c.of))); got != c.want {
			t.Errorf("Witness %s in %s: %s, not %s", c.of, c.p, got, c.want)
		}
	}
}

// chain is a program of 150 data, of which each one has the one ahead in each P of
// a CTOR.
func chain(each string) []api.Form {
	s := "(data D0 () (X0))"
	for i := 1; i < 150; i++ {
		n := strconv.Itoa(i)
		s += " (data D" + n + " () " + strings.NewReplacer("(C", "(C"+n, "P", "D"+strconv.Itoa(i-1)).Replace(each) + ")"
	}
	return forms(s)
}

// R1: a witness that would be no valid form is none.
func TestWitnessMuch(t *testing.T) {
	for each, field := range map[string]string{"(C (x P))": "", "(C (x P) (y P))": "", "(C (x P) (y P) (z P))": "", "(C (m (imap int P)))": "imap"} {
		p := chain(each)
		isLet(t, each, p)
		w := list(word("make"), word("X0"))
		for i := range 150 {
			want := "error 3"
			if reader.Valid(w) {
				want = reader.Write(w)
			}
			if i < 20 || i%10 < 2 {
				if got := told(inhabit.Witness(p, word("D"+strconv.Itoa(i)))); got != want {
					t.Fatalf("Witness D%d of %s: %d bytes, not %d", i, each, len(got), len(want))
				}
			}
			if field == "imap" {
				w = list(word("imap"), w, word("int"))
			}
			next := []api.Form{word("make"), word("C" + strconv.Itoa(i+1))}
			for range strings.Count(each, "P") {
				next = append(next, w)
			}
			w = list(next...)
		}
	}
}

// R1: the arguments may be so many, too.
func TestWitnessMuchArguments(t *testing.T) {
	s := "(data Q (a b) (Q1)) (data D0 (a) (X0))"
	for i := 1; i < 150; i++ {
		s += " (data D" + strconv.Itoa(i) + " (a) (C" + strconv.Itoa(i) + " (x (D" + strconv.Itoa(i-1) + " (Q a a)))))"
	}
	p := forms(s)
	for i, want := range map[int]string{0: "OK", 5: "OK", 9: "OK", 20: "error 3", 149: "error 3"} {
		w, err := inhabit.Witness(p, form("(D"+strconv.Itoa(i)+" int)"))
		if got := failed(err); got != want && (want != "OK" || err != api.OK || !reader.Valid(w)) {
			t.Errorf("Witness (D%d int): %s, %d parts", i, got, reader.Size(w))
		}
	}
}

// R1: data that stand in themselves with ever greater arguments.
func TestWitnessGrows(t *testing.T) {
	s := "(data W (a) (W1 (x a))) (data G (a b c d) (G1 (x (G (W a) b c d)) (y (G a (W b) c d)) (z (G a b (W c) (W d)))) (G2 (x a) (y b) (z c) (w d)) (G3 (r D149))) (data H (a) (H1 (x (W (H (W a))))) (H2 (i (I a))) (H3 (s (seq a)))) (data I (a) (I1 (h (H (W a)))))"
	p := append(chain("(C (x P))"), forms(s)...)
	isLet(t, "what grows", p)
	for of, want := range map[string]string{
		"(G int int int int)": "(make G2 (of int int int int) 0 0 0 0)", "(G int D0 int int)": "(make G2 (of int D0 int int) 0 (make X0) 0 0)", "(G int C int int)": "error 3",
		"(H int)": "(make H3 (of int) (empty (seq int)))", "(I int)": "(make I1 (of int) (make H3 (of (W int)) (empty (seq (W int)))))", "(I (I C))": "(make I1 (of (I C)) (make H3 (of (W (I C))) (empty (seq (W (I C))))))",
	} {
		if got := told(inhabit.Witness(append(p, forms("(class C ())")...), form(of))); got != want {
			t.Errorf("Witness %s: %s, not %s", of, got, want)
		}
	}
}

// P9.2: with their arguments put in, data may be ready in more rounds than there
// are data. R1: in more than a form may be deep, too.
func TestWitnessOfImapRounds(t *testing.T) {
	p := "(data E0 (a) (X0 (x a)))"
	for i := 1; i < 40; i++ {
		at, ahead := strconv.Itoa(i), "E"+strconv.Itoa(i-1)
		p += " (data E" + at + " (a) (X" + at + " (x (" + ahead + " (" + ahead + " a)))))"
	}
	// made is the witness of an E of a type, of which one is given.
	var made func(i int, of, w string) string
	made = func(i int, of, w string) string {
		at, ahead := strconv.Itoa(i), "E"+strconv.Itoa(i-1)
		if i > 0 {
			inner := made(i-1, of, w)
			w = made(i-1, "("+ahead+" "+of+")", inner)
		}
		return "(make X" + at + " (of " + of + ") " + w + ")"
	}
	for i, want := range map[int]string{0: made(0, "int", "0"), 1: made(1, "int", "0"), 2: made(2, "int", "0"), 5: made(5, "int", "0"), 6: "error 3", 7: "error 3", 39: "error 3"} {
		got := told(inhabit.Witness(forms(p), form("(imap bool (E"+strconv.Itoa(i)+" int))")))
		if got = strings.TrimSuffix(strings.TrimPrefix(got, "(imap "), " bool)"); got != want {
			t.Errorf("Witness of an imap to E%d: %s, not %s", i, got, want)
		}
	}
	of, w := "int", "0"
	for i := range 99 {
		want := "(imap " + w + " bool)"
		if f, err := reader.One(want); err != api.OK || !reader.Valid(f) {
			want = "error 3"
		}
		if got := told(inhabit.Witness(forms("(data E0 (a) (X0 (x a)))"), form("(imap bool "+of+")"))); got != want || (want == "error 3") != (i > 97) {
			t.Errorf("Witness of an imap to %d: %d bytes, not %d", i, len(got), len(want))
		}
		of, w = "(E0 "+of+")", "(make X0 (of "+of+") "+w+")"
	}
}

// R1: data that stand in each other with ever greater arguments, in all ways.
func TestWitnessOfImapGrows(t *testing.T) {
	p := append(chain("(C (x P))"), forms(`(class K ()) (data W (a) (W1 (x a)))
		(data G (a b c d) (G1 (x (H (W a) b c d)) (y (H a (W b) c d))) (G2 (z (H b d c (W a))) (w (I d (W b) (W a) c))) (G3 (x a) (y b) (z c) (w d)))
		(data H (a b c d) (H1 (x (G a b c (W d))) (y (I a b (W c) d))) (H2 (x (I b a (W d) c))) (H3 (g (G a b c d))))
		(data I (a b c d) (I1 (x (G (W d) (W c) b a))) (I2 (x (H d c (W b) int)) (w W149)) (I3 (h (H d c b a))))
		(data W149 () (W2 (d D149)))`)...)
	isLet(t, "what grows", p)
	for of, want := range map[string]string{
		"(G int int int int)": "(make G3 (of int int int int) 0 0 0 0)", "(H int int int int)": "(make H3 (of int int int int) (make G3 (of int int int int) 0 0 0 0))", "(I int (W int) D1 bool)": "(make I1 (of int (W int) D1 bool) (make G3 (of (W bool) (W D1) (W int) int) (make W1 (of bool) false) (make W1 (of D1) (make C1 (make X0))) (make W1 (of int) 0) 0))",
		"(G int int int K)": "error 3", "(H K int int int)": "error 3", "(I int D149 int int)": "error 3", "(G (W K) (W (W K)) D90 D60)": "error 3", "(I (G K D9 D7 K) (H D8 D7 D6 D5) (I D5 D6 D7 D8) K)": "error 3",
	} {
		if want != "error 3" {
			want = "(imap " + want + " int)"
		}
		if got := told(inhabit.Witness(p, form("(imap int "+of+")"))); got != want {
			t.Errorf("Witness of an imap to %s: %s, not %s", of, got, want)
		}
	}
}
