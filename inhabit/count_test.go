package inhabit_test

import (
	"strconv"
	"strings"
	"testing"

	"plinth/api"
	"plinth/inhabit"
)

// sized has data of which there are so many values as their names say: V has none,
// I is without end.
const sized = `(data V () (V1 (v V))) (data One () (O1)) (data N3 () (A3) (B3) (C3)) (data N5 () (A5 (x bool)) (B5 (x N3))) (data N6 () (A6 (x bool) (y N3))) (data N9 () (A9 (x N3) (y N3)) (B9 (v V) (i int)))
	(data I () (I1 (n int))) (data N1000 () (M1 (a (bits 3)) (b N5) (c N5) (d N5))) (data N1001 () (M2 (m N1000)) (M3)) (data N2000 () (M4 (m N1000)) (M5 (m N1000))) (data N500 () (M6 (b bool) (h N250))) (data N250 () (M7 (m N5) (n N5) (o N5) (p bool)))
	(data T () (Leaf) (Node (l T) (r T))) (data L (a) (Nil) (Cons (head a) (tail (L a)))) (data Opt (a) (No) (Yes (x a))) (data Pair (a b) (Both (x a) (y b))) (data Or (a b) (Left (x a)) (Right (y b))) (data Ghost (a) (G1) (G2))
	(codata Loop () (Round (next Loop))) (codata Loops (a) (Rounds (next (Loops a)) (other (Loops int)))) (codata S (a) (More (now a) (next (S a)))) (codata Flat (a) (F1 (x a)) (F2)) (codata Twin () (T1 (n Loop2))) (codata Loop2 () (T2 (n Twin))) (codata Bi () (Bi1 (x Bi)) (Bi2 (x Bi))) (codata Void () (Void1 (v V)))
	(class C () (field x int)) (trait R ()) (sub nat (n int) (<= 0 n) 0) (sub few (x bool) x true) (sub none (v V) false v) `

// P9.2: how many values a type has.
func TestCount(t *testing.T) {
	p := forms(sized)
	for s, want := range map[string]string{
		"bool": "2", "int": "-1", "(maybe C)": "-1", "(maybe R)": "-1", "C": "-1", "R": "-1", "nat": "-1", "few": "-1", "none": "-1",
		"(bits 1)": "2", "(bits 2)": "4", "(bits 3)": "8", "(bits 9)": "512", "(bits 10)": "-1", "(bits 16)": "-1",
		"(seq int)": "-1", "(seq bool)": "-1", "(seq V)": "1", "(seq One)": "-1", "(seq none)": "-1", "(bag V)": "1", "(bag One)": "-1", "(bag bool)": "-1",
		"(set bool)": "4", "(set V)": "1", "(set One)": "2", "(set N3)": "8", "(set N9)": "512", "(set (bits 4))": "-1", "(set int)": "-1", "(set (set bool))": "16", "(set (set (set bool)))": "-1", "(set (set (set One)))": "16", "(set (seq V))": "2", "(set few)": "-1", "(set C)": "-1",
		"(map bool bool)": "9", "(map bool N3)": "16", "(map N3 bool)": "27", "(map One V)": "1", "(map int V)": "1", "(map bool V)": "1", "(map V int)": "1", "(map V V)": "1", "(map V One)": "1", "(map One One)": "2", "(map One int)": "-1", "(map int One)": "-1", "(map int int)": "-1", "(map N6 bool)": "729", "(map N9 bool)": "-1", "(map N9 One)": "512", "(map (bits 4) One)": "-1", "(map One N1000)": "-1", "(map One N500)": "501", "(map nat V)": "1", "(map V nat)": "1",
		"(imap int One)": "1", "(imap V One)": "1", "(imap bool One)": "1", "(imap bool bool)": "-1", "(imap int V)": "-1", "(imap One V)": "-1", "(imap V V)": "-1", "(imap int int)": "-1", "(imap int (seq V))": "1", "(imap int (imap bool One))": "1", "(imap int few)": "-1",
		"(fun () One)": "1", "(fun (int bool) One)": "1", "(fun (V) One)": "1", "(fun () V)": "-1", "(fun (V) V)": "-1", "(fun () bool)": "-1", "(fun (V) bool)": "-1", "(fun (int) (fun (int) One))": "1", "(fun () (seq V))": "1",
		"V": "0", "One": "1", "N3": "3", "N5": "5", "N6": "6", "N9": "9", "I": "-1", "N250": "250", "N500": "500", "N1000": "1000", "N1001": "-1", "N2000": "-1", "T": "-1",
		"(L int)": "-1", "(L V)": "-1", "(L One)": "-1", "(Opt bool)": "3", "(Opt V)": "1", "(Opt int)": "-1", "(Opt (Opt bool))": "4", "(Opt (Opt (Opt V)))": "3", "(Pair bool N3)": "6", "(Pair V int)": "0", "(Pair int V)": "0", "(Pair One int)": "-1", "(Pair (Pair bool bool) (Opt N3))": "16", "(Pair N500 bool)": "1000", "(Pair N500 N3)": "-1", "(Or bool N3)": "5", "(Or V V)": "0", "(Or V int)": "-1", "(Or N500 N500)": "1000", "(Or N500 (Opt N500))": "-1", "(Ghost V)": "2", "(Ghost int)": "2", "(Ghost (L bool))": "2", "(Pair V nat)": "0", "(Pair (Or V V) (fun () int))": "0", "(set (Ghost int))": "4",
		"Loop": "1", "(Loops bool)": "1", "(Loops V)": "1", "(S One)": "-1", "(S V)": "-1", "(Flat bool)": "3", "(Flat V)": "1", "(Flat int)": "-1", "(Flat (Flat One))": "3", "Twin": "-1", "Loop2": "-1", "Bi": "-1", "Void": "0", "(Opt Loop)": "2", "(imap int Loop)": "1", "(seq Void)": "1", "(Pair Loop Loop)": "1",
	} {
		if got := counted(inhabit.Count(p, form(s))); got != want {
			t.Errorf("Count %s: %s, not %s", s, got, want)
		}
	}
}

// P9.2: data in circles are more, if founded, else none, whatever is between.
func TestCountCircles(t *testing.T) {
	for _, c := range []struct{ p, of, want string }{
		{"(data A () (A0) (A1 (b B))) (data B () (B0) (B1 (a A)))", "A", "-1"}, {"(data A () (A0) (A1 (b B))) (data B () (B1 (a A)))", "B", "-1"}, {"(data A () (A1 (b B))) (data B () (B1 (a A)))", "B", "0"}, {"(data A () (A1 (b B) (c A))) (data B () (B0) (B1 (n bool)))", "A", "0"}, {"(data A () (A1 (b B)) (A2 (a A))) (data B () (B0) (B1 (n bool)))", "A", "-1"},
		{"(data D () (D0) (D1 (s (seq D))))", "D", "-1"}, {"(data D () (D0) (D1 (s (set D))))", "D", "-1"}, {"(data D () (D0) (D1 (s (fun (D) bool))))", "D", "-1"}, {"(data D () (D1 (s (seq D))))", "D", "-1"}, {"(data D () (D1 (s (imap int D))))", "D", "0"}, {"(data D () (D1 (s (imap D bool))))", "D", "-1"},
		{"(data D () (D0) (D1 (s s))) (sub s (d D) true (make D0))", "D", "-1"}, {"(data D () (D0) (D1 (s s))) (sub s (d (seq D)) true (make D0))", "(seq D)", "-1"}, {"(data D () (D0) (D1 (s s) (v V))) (sub s (d D) true (make D0)) (data V () (V1 (v V)))", "D", "-1"}, {"(data D () (D0) (D1 (s s) (v V))) (sub s (d bool) true true) (data V () (V1 (v V)))", "D", "1"},
		{"(data D () (D0) (D1 (p (Ghost D)))) (data Ghost (a) (G1))", "D", "-1"}, {"(data D () (D0) (D1 (p (Ghost D)))) (data Ghost (a) (G1))", "(Ghost D)", "1"}, {"(data D () (D0) (D1 (p (Ghost bool)))) (data Ghost (a) (G1))", "D", "2"},
		{"(data D () (D0) (D1 (c C))) (class C () (field d D))", "D", "-1"}, {"(data D () (D0) (D1 (v V) (c C))) (class C () (field d D)) (data V () (V1 (v V)))", "D", "1"}, {"(data D () (D1 (c C))) (codata C () (C1 (d D)))", "D", "-1"}, {"(data D () (D1 (c C))) (codata C () (C1 (d D)))", "C", "-1"}, {"(data D () (D1 (c C) (d D))) (codata C () (C1 (d D)))", "C", "-1"}, {"(data D () (D1 (c C) (d D))) (codata C () (C1 (b bool)))", "D", "0"},
		{"(data N (a) (N0) (N1 (n (N (seq a)))))", "(N bool)", "-1"}, {"(data N (a) (N1 (n (N (seq a)))))", "(N bool)", "0"}, {"(data N (a) (N0) (N1 (x a)))", "(N (N (N bool)))", "5"}, {"(data T (a) (T1 (x a)) (T2 (l (T a)) (r (T a))))", "(T bool)", "-1"},
		{"(data M (a) (M1 (m (imap int a)))) (data V () (V1 (v V)))", "(M V)", "-1"}, {"(data M () (M1 (m (imap int V)))) (data V () (V1 (v V)))", "M", "0"}, {"(codata M () (M1 (m (imap int V)))) (data V () (V1 (v V)))", "M", "-1"},
		{"(codata C () (C1 (c C)) (C2 (c C)))", "C", "-1"}, {"(codata C () (C1 (c C) (d C)))", "C", "1"}, {"(codata C () (C1 (c C) (d One))) (data One () (O1))", "C", "-1"}, {"(codata C () (C1))", "C", "1"}, {"(codata C () (C1 (c (seq C))))", "C", "-1"}, {"(codata C () (C1 (c s))) (sub s (c C) true c)", "C", "-1"}, {"(codata C () (C1 (c C) (v V))) (data V () (V1 (v V)))", "C", "-1"},
		{"(codata C (a b) (C1 (c (C b a)) (d (C int (seq b)))))", "(C bool int)", "1"},
	} {
		if got := counted(inhabit.Count(forms(c.p), form(c.of))); got != c.want {
			t.Errorf("Count %s in %s: %s, not %s", c.of, c.p, got, c.want)
		}
	}
}

// P9.2: behind scope's errors come those of layer 3 of the type, asked with this
// layer's table.
func TestCountErrors(t *testing.T) {
	p := forms(sized + "(data Fn () (Fn1 (f (fun () int)))) (data K (a) (eq a) (K1 (x a)))")
	for s, want := range map[string]string{
		"7": "error 1", "\"int\"": "error 1", "()": "error 1", "(seq)": "error 1", "(maybe int)": "error 8", "(bits 17)": "error 8", "(bits 0)": "error 8", "nowhere": "error 6", "a": "error 6", "null": "error 6", "seq": "error 6", "(nowhere int)": "error 6", "L": "error 8", "(L int int)": "error 8", "(One int)": "error 8", "(nat int)": "error 8", "(fun int int)": "error 1", "(seq nowhere)": "error 6",
		"(set (fun () int))": "error 8", "(set (S int))": "error 8", "(set Fn)": "error 8", "(set (L int))": "error 8", "(set (K int))": "-1", "(set (K bool))": "4", "(set (K Fn))": "error 8", "(map Fn int)": "error 8", "(seq Fn)": "-1", "(imap Fn One)": "error 8", "(bag (seq Fn))": "error 8", "(map int Fn)": "-1",
	} {
		if got := counted(inhabit.Count(p, form(s))); got != want {
			t.Errorf("Count %s: %s, not %s", s, got, want)
		}
		if got := told(inhabit.Witness(p, form(s))); strings.HasPrefix(want, "error") && got != want {
			t.Errorf("Witness %s: %s, not %s", s, got, want)
		}
	}
	for _, f := range []api.Form{{Kind: 9}, {Kind: api.Word}, {Kind: api.Num, N: 3, Text: "x"}, list(word("seq"), api.Form{Kind: -1}), {}} {
		if got := counted(inhabit.Count(p, f)); got != "error 1" {
			t.Errorf("Count of %v: %s", f, got)
		}
		if got := told(inhabit.Witness(p, f)); got != "error 1" {
			t.Errorf("Witness of %v: %s", f, got)
		}
	}
}

// R1, R6: how many there are is told of programs in which there are very many.
func TestCountMuch(t *testing.T) {
	for _, c := range []struct{ base, each, of, want string }{
		{"(data D0 () (X0) (Y0))", "(data D (C (x P) (y P)))", "", "-1"},
		{"(data D0 () (X0))", "(data D (C (x P) (y P)))", "", "1"},
		{"(data D0 () (X0 (d D0)))", "(data D (C (x P) (y P)))", "", "0"},
		{"(data D0 (a) (X0 (x a)))", "(data D (a) (C (x (P (Q a a)))))", "One", "1"},
		{"(data D0 (a) (X0 (x a)))", "(data D (a) (C (x (P (Q a a)))))", "bool", "-1"},
		{"(data D0 (a) (X0 (x a)) (Y0))", "(data D (a) (C (x (P (Q a a)))))", "V", "1"},
		{"(data D0 (a) (X0 (x a)))", "(data D (a) (C (x (P (Q a a)))))", "V", "0"},
	} {
		s := "(data Q (a b) (Q1 (x a) (y b))) (data One () (O1)) (data V () (V1 (v V))) " + c.base
		for i := 1; i < 150; i++ {
			d := strings.NewReplacer("(data D (C", "(data D () (C", "(data D (a)", "(data D (a)", "P", "D"+strconv.Itoa(i-1)).Replace(c.each)
			s += strings.NewReplacer("data D ", "data D"+strconv.Itoa(i)+" ", "(C ", "(C"+strconv.Itoa(i)+" ").Replace(d)
		}
		of := form("D149")
		if c.of != "" {
			of = form("(D149 " + c.of + ")")
		}
		if got := counted(inhabit.Count(forms(s), of)); got != c.want {
			t.Errorf("Count of much of %s, %s: %s, not %s", c.base, c.of, got, c.want)
		}
	}
}
